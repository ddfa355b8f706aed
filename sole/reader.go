package sole

import (
	"cmp"
	"slices"
	"strings"

	"ablaut/api"
)

// isReader reports whether a reader of an alphabet has a state, only states and symbols of its own in its moves and lasts, and these in order.
func isReader(r api.Reader) bool {
	state := func(q int) bool { return q >= 0 && q < r.States }
	symbol := func(s string) bool {
		_, in := slices.BinarySearch(r.Sigma, s)
		return in
	}
	spelled := func(w []string) bool {
		return !slices.ContainsFunc(w, func(s string) bool { return !symbol(s) })
	}
	for i, m := range r.Moves {
		if !state(m.From) || !state(m.To) || !symbol(m.In) || !spelled(m.Out) {
			return false
		}
		if i > 0 && compareMoves(r.Moves[i-1], m) >= 0 {
			return false
		}
	}
	for i, l := range r.Lasts {
		if !state(l.State) || !spelled(l.Out) || i > 0 && r.Lasts[i-1].State >= l.State {
			return false
		}
	}
	return r.States >= 1 && spelled(r.Begin)
}

// compareMoves compares two moves by their states and symbols.
func compareMoves(a, b api.Move) int {
	if a.From != b.From {
		return cmp.Compare(a.From, b.From)
	}
	return strings.Compare(a.In, b.In)
}

// longest returns how many symbols a reader writes at once, at most.
func longest(r api.Reader) int {
	n := len(r.Begin)
	for _, m := range r.Moves {
		n = max(n, len(m.Out))
	}
	for _, l := range r.Lasts {
		n = max(n, len(l.Out))
	}
	return n
}

// made returns what a valid reader makes of a word; false if nothing.
func made(r api.Reader, x []string) ([]string, bool) {
	y := slices.Clone(r.Begin)
	at := 0
	for _, s := range x {
		i, there := slices.BinarySearchFunc(r.Moves, api.Move{From: at, In: s}, compareMoves)
		if !there {
			return nil, false
		}
		y = append(y, r.Moves[i].Out...)
		at = r.Moves[i].To
	}
	i, there := slices.BinarySearchFunc(r.Lasts, at, func(l api.Last, q int) int { return l.State - q })
	if !there {
		return nil, false
	}
	return append(y, r.Lasts[i].Out...), true
}

// netOf returns a relation of the words of which a valid reader makes something with what it makes of them.
func netOf(r api.Reader) api.Net {
	// One state is ahead of those of the reader, for what is written at first, and one behind them, to end in.
	end := r.States + 1
	n := api.Net{Sigma: slices.Clone(r.Sigma), States: r.States + 2, Ends: []api.End{{State: end}}}
	// write adds arcs from one state to another, the first of which reads a symbol or nothing, and which write a word.
	write := func(from int, in string, w []string, to int) {
		for ; len(w) > 1; w = w[1:] {
			n.Arcs = append(n.Arcs, api.Arc{From: from, In: in, Out: w[0], To: n.States})
			from, in = n.States, ""
			n.States++
		}
		n.Arcs = append(n.Arcs, api.Arc{From: from, In: in, Out: strings.Join(w, ""), To: to})
	}
	write(0, "", r.Begin, 1)
	for _, m := range r.Moves {
		write(m.From+1, m.In, m.Out, m.To+1)
	}
	for _, l := range r.Lasts {
		write(l.State+1, "", l.Out, end)
	}
	return n
}
