package det

import (
	"math/bits"
	"slices"

	"ablaut/api"
)

// some are states of one stretch of 64: if bit i is set, the state 64*stretch + i.
type some struct {
	stretch int
	bits    uint64
}

// states is a set of states in which each stretch stands once, in no order: a short list where they are few or close together, whatever their net has.
type states []some

// with returns the states of both. It uses s up.
func (s states) with(t states) states {
adding:
	for _, x := range t {
		for i := range s {
			if s[i].stretch == x.stretch {
				s[i].bits |= x.bits
				continue adding
			}
		}
		s = append(s, x)
	}
	return s
}

// only returns the set of one state.
func only(q int) states {
	return states{{q / 64, 1 << (q % 64)}}
}

// subset is a set of states as wide as its net, so that equal sets have equal keys.
type subset []uint64

func (s subset) add(t states) {
	for _, x := range t {
		s[x.stretch] |= x.bits
	}
}

func (s subset) isEmpty() bool {
	return !slices.ContainsFunc(s, func(b uint64) bool { return b != 0 })
}

// each calls do with each state.
func (s subset) each(do func(q int)) {
	for i, b := range s {
		for b != 0 {
			do(64*i + bits.TrailingZeros64(b))
			b &= b - 1 // without the lowest bit
		}
	}
}

// key returns a text that equal subsets of a net, and only these, have in common.
func (s subset) key() string {
	text := make([]byte, 0, 8*len(s))
	for _, b := range s {
		for range 8 {
			text = append(text, byte(b))
			b >>= 8
		}
	}
	return string(text)
}

// graph is an acceptor whose empty arcs are taken along with those ahead of them.
type graph struct {
	symbols int
	width   int      // of its subsets
	begin   states   // to which the empty word leads
	next    []states // to which a symbol leads from a state: at the state's number times symbols, and the symbol's
	ends    []bool
}

// index returns the graph of an acceptor.
func index(n api.Net) graph {
	closed := closures(n)
	g := graph{
		symbols: len(n.Sigma),
		width:   (n.States + 63) / 64,
		begin:   closed[0],
		next:    make([]states, n.States*len(n.Sigma)),
		ends:    make([]bool, n.States),
	}
	for _, a := range n.Arcs {
		if a.In != "" {
			x, _ := slices.BinarySearch(n.Sigma, a.In)
			i := a.From*g.symbols + x
			g.next[i] = g.next[i].with(closed[a.To])
		}
	}
	for _, d := range n.Ends {
		g.ends[d.State] = true
	}
	return g
}

// closures returns for each state the states to which empty arcs lead from it, itself too.
func closures(n api.Net) []states {
	empties := make([][]int, n.States)
	for _, a := range n.Arcs {
		if a.In == "" {
			empties[a.From] = append(empties[a.From], a.To)
		}
	}
	closed := make([]states, n.States)
	seen := slices.Repeat([]int{none}, n.States) // from which state each one was met last
	for q := range closed {
		seen[q] = q
		todo := []int{q}
		for i := 0; i < len(todo); i++ { // the list grows meanwhile
			closed[q] = closed[q].with(only(todo[i]))
			for _, to := range empties[todo[i]] {
				if seen[to] != q {
					seen[to] = q
					todo = append(todo, to)
				}
			}
		}
	}
	return closed
}

// follow returns for each symbol the subset to which it leads.
func (g graph) follow(s subset) []subset {
	to := make([]subset, g.symbols)
	for x := range to {
		to[x] = make(subset, g.width)
	}
	s.each(func(q int) {
		for x := range to {
			to[x].add(g.next[q*g.symbols+x])
		}
	})
	return to
}

// isEnd reports whether a subset has an end.
func (g graph) isEnd(s subset) bool {
	is := false
	s.each(func(q int) { is = is || g.ends[q] })
	return is
}

// determine returns the table of an acceptor, whose states are its subsets, those from which no end is reached too; false if these are more than MaxSubsets.
func determine(n api.Net) (table, bool) {
	g := index(n)
	numbers := map[string]int{}
	var all []subset
	number := func(s subset) int {
		if s.isEmpty() {
			return none
		}
		k := s.key()
		i, there := numbers[k]
		if !there {
			i = len(all)
			numbers[k] = i
			all = append(all, s)
		}
		return i
	}
	begin := make(subset, g.width)
	begin.add(g.begin)
	number(begin)
	var t table
	for i := 0; i < len(all); i++ { // the list grows meanwhile
		row := make([]int, g.symbols)
		for x, to := range g.follow(all[i]) {
			row[x] = number(to)
		}
		t.add(row, g.isEnd(all[i]))
		if len(all) > api.MaxSubsets {
			return table{}, false
		}
	}
	return t, true
}
