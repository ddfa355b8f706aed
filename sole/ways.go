package sole

import "ablaut/api"

// withoutEmpty returns a net in which each word has as many ways as it has in a trimmed one, with arcs that read a symbol and write nothing, none of them twice; false if there are two ways that read the same from one state to another, or a circle that reads nothing, so that some word has more than one way.
func withoutEmpty(n api.Net) (api.Net, bool) {
	runs, ok := runsOf(n)
	if !ok {
		return api.Net{}, false
	}
	m := api.Net{Sigma: n.Sigma, States: n.States}
	seen := map[api.Arc]bool{}
	ended := make([]bool, n.States)
	for q, run := range runs {
		for _, a := range n.Arcs {
			if a.In == "" || !run[a.From] {
				continue
			}
			// What is written makes no difference between two ways: they are two all the same.
			whole := api.Arc{From: q, In: a.In, To: a.To}
			if seen[whole] {
				return api.Net{}, false
			}
			seen[whole] = true
			m.Arcs = append(m.Arcs, whole)
		}
		for _, d := range n.Ends {
			if !run[d.State] {
				continue
			}
			if ended[q] {
				return api.Net{}, false
			}
			ended[q] = true
			m.Ends = append(m.Ends, api.End{State: q})
		}
	}
	return m, true
}

// runsOf marks for each state those to which ways lead from it that read nothing; false if there is a circle of these, or two from one state to another.
func runsOf(n api.Net) ([][]bool, bool) {
	next := make([][]int, n.States)
	for _, a := range n.Arcs {
		if a.In == "" {
			next[a.From] = append(next[a.From], a.To)
		}
	}
	runs := make([][]bool, n.States)
	entered := make([]bool, n.States)
	var visit func(q int) bool
	visit = func(q int) bool {
		if entered[q] {
			return runs[q] != nil // a state that one has entered but not left is on a circle
		}
		entered[q] = true
		run := make([]bool, n.States)
		run[q] = true
		for _, to := range next[q] {
			if !visit(to) {
				return false
			}
			for p, is := range runs[to] {
				if is && run[p] {
					return false
				}
				run[p] = run[p] || is
			}
		}
		runs[q] = run
		return true
	}
	for q := range n.States {
		if !visit(q) {
			return nil, false
		}
	}
	return runs, true
}
