package det

import (
	"slices"

	"ablaut/api"
)

// ahead marks the states of a from which some word of b leads to an end.
func ahead(a, b api.Net) []bool {
	// It goes back from the ends of both at once, over places of three parts: a state of a, one of b, and the symbol that b has taken and a has still to take, or 0 for none. With such places between, arcs need not be gone through two by two.
	type place struct{ p, q, symbol int }
	toA, toB := arriving(a), arriving(b)
	seen := make([]bool, a.States*b.States*len(toA))
	var todo []place
	push := func(p, q, symbol int) {
		i := (symbol*a.States+p)*b.States + q
		if !seen[i] {
			seen[i] = true
			todo = append(todo, place{p, q, symbol})
		}
	}
	endsB := ends(b)
	for _, p := range ends(a) {
		for _, q := range endsB {
			push(p, q, 0)
		}
	}
	for len(todo) > 0 {
		at := todo[len(todo)-1]
		todo = todo[:len(todo)-1]
		for _, p := range toA[at.symbol][at.p] {
			push(p, at.q, 0)
		}
		if at.symbol != 0 {
			continue
		}
		for symbol, to := range toB {
			for _, q := range to[at.q] {
				push(at.p, q, symbol)
			}
		}
	}
	marked := make([]bool, a.States)
	for p := range marked {
		marked[p] = seen[p*b.States]
	}
	return marked
}

// arriving returns whence arcs lead to each state: empty ones at 0, those of each symbol at its number and 1.
func arriving(n api.Net) [][][]int {
	l := make([][][]int, len(n.Sigma)+1)
	for i := range l {
		l[i] = make([][]int, n.States)
	}
	for _, a := range n.Arcs {
		i := 0
		if a.In != "" {
			x, _ := slices.BinarySearch(n.Sigma, a.In)
			i = x + 1
		}
		l[i][a.To] = append(l[i][a.To], a.From)
	}
	return l
}

// ends returns the states that are ends, each once.
func ends(n api.Net) []int {
	var l []int
	for _, d := range n.Ends {
		l = append(l, d.State)
	}
	slices.Sort(l)
	return slices.Compact(l)
}
