package rel

import (
	"slices"

	"ablaut/api"
)

// sides are what the arcs of a relation get above and below.
type sides struct {
	above, below func(a api.Arc) string
}

// What an arc may get on a side.
func in(a api.Arc) string    { return a.In }
func out(a api.Arc) string   { return a.Out }
func nothing(api.Arc) string { return "" }

// of returns a relation with these sides.
func (s sides) of(n api.Net) api.Net {
	r := api.Net{Sigma: slices.Clone(n.Sigma), States: n.States, Ends: slices.Clone(n.Ends)}
	for _, a := range n.Arcs {
		r.Arcs = append(r.Arcs, api.Arc{From: a.From, In: s.above(a), Out: s.below(a), To: a.To})
	}
	return r
}

// ends returns the states that are ends, each once.
func ends(n api.Net) []int {
	var l []int
	for _, d := range n.Ends {
		l = append(l, d.State)
	}
	slices.Sort(l)
	return slices.Compact(l)
}

// put adds the states and arcs of m to n, and returns where m begins there, and its ends.
func put(n *api.Net, m api.Net) (int, []int) {
	begin := n.States
	n.States += m.States
	for _, a := range m.Arcs {
		a.From += begin
		a.To += begin
		n.Arcs = append(n.Arcs, a)
	}
	l := ends(m)
	for i := range l {
		l[i] += begin
	}
	return begin, l
}

// jump adds empty arcs from some states to one.
func jump(n *api.Net, to int, from ...int) {
	for _, q := range from {
		n.Arcs = append(n.Arcs, api.Arc{From: q, To: to})
	}
}

// finish adds ends.
func finish(n *api.Net, l ...int) {
	for _, q := range l {
		n.Ends = append(n.Ends, api.End{State: q})
	}
}

// either returns a relation of the pairs of a or b.
func either(a, b api.Net) api.Net {
	// A begin of its own: arcs may lead back to those of a and b.
	n := api.Net{Sigma: slices.Clone(a.Sigma), States: 1}
	for _, m := range []api.Net{a, b} {
		begin, l := put(&n, m)
		jump(&n, begin, 0)
		finish(&n, l...)
	}
	return n
}

// chained returns a relation of the pairs of a with pairs of b behind them.
func chained(a, b api.Net) api.Net {
	n := api.Net{Sigma: slices.Clone(a.Sigma)}
	_, between := put(&n, a)
	begin, l := put(&n, b)
	jump(&n, begin, between...)
	finish(&n, l...)
	return n
}

// starred returns a relation of any number of pairs of n one behind the other.
func starred(n api.Net) api.Net {
	// A begin of its own, which is the only end: arcs may lead back to that of n on the way.
	r := api.Net{Sigma: slices.Clone(n.Sigma), States: 1}
	begin, l := put(&r, n)
	jump(&r, begin, 0)
	jump(&r, 0, l...)
	finish(&r, 0)
	return r
}

// trimmed returns a relation of the same pairs, with only the states, but for 0, and the arcs and ends that are on a way from 0 to an end.
func trimmed(n api.Net) api.Net {
	onward, back := neighbours(n)
	begun, ended := reached(onward, 0), reached(back, ends(n)...)
	on := func(q int) bool { return begun[q] && ended[q] }
	r := api.Net{Sigma: slices.Clone(n.Sigma), States: 1}
	numbers := make([]int, n.States)
	for q := 1; q < n.States; q++ {
		if on(q) {
			numbers[q] = r.States
			r.States++
		}
	}
	for _, a := range n.Arcs {
		if on(a.From) && on(a.To) {
			r.Arcs = append(r.Arcs, api.Arc{From: numbers[a.From], In: a.In, Out: a.Out, To: numbers[a.To]})
		}
	}
	for _, d := range n.Ends {
		if on(d.State) {
			r.Ends = append(r.Ends, api.End{State: numbers[d.State]})
		}
	}
	return r
}

// neighbours returns for each state those to which arcs lead from it, and those from which arcs lead to it.
func neighbours(n api.Net) (onward, back [][]int) {
	onward, back = make([][]int, n.States), make([][]int, n.States)
	for _, a := range n.Arcs {
		onward[a.From] = append(onward[a.From], a.To)
		back[a.To] = append(back[a.To], a.From)
	}
	return onward, back
}

// reached marks some states, and those to which one comes from them.
func reached(next [][]int, begins ...int) []bool {
	seen := make([]bool, len(next))
	var todo []int
	add := func(q int) {
		if !seen[q] {
			seen[q] = true
			todo = append(todo, q)
		}
	}
	for _, q := range begins {
		add(q)
	}
	for i := 0; i < len(todo); i++ { // the list grows meanwhile
		for _, to := range next[todo[i]] {
			add(to)
		}
	}
	return seen
}
