package det

import (
	"slices"

	"ablaut/api"
)

// none stands where no state is.
const none = -1

// table is an automaton in which a word leads to one state at most: next has for each state, and for each symbol by its number, the state that follows, or none. It begins in 0.
type table struct {
	next [][]int
	ends []bool
}

// add gives a table one state more.
func (t *table) add(row []int, end bool) {
	t.next = append(t.next, row)
	t.ends = append(t.ends, end)
}

// symbols returns how many symbols a table has.
func (t table) symbols() int { return len(t.next[0]) }

// net returns the acceptor of a table, arcs and ends in ascending order.
func (t table) net(sigma []string) api.Net {
	n := api.Net{Sigma: slices.Clone(sigma), States: len(t.next)}
	for q, row := range t.next {
		for x, to := range row {
			if to != none {
				n.Arcs = append(n.Arcs, api.Arc{From: q, In: sigma[x], Out: sigma[x], To: to})
			}
		}
		if t.ends[q] {
			n.Ends = append(n.Ends, api.End{State: q})
		}
	}
	return n
}

// complement returns a table of all other words.
func (t table) complement() table {
	// Where no state follows, one more does, from which no way leads back.
	other := len(t.next)
	var c table
	for q, row := range t.next {
		row = slices.Clone(row)
		for x, to := range row {
			if to == none {
				row[x] = other
			}
		}
		c.add(row, !t.ends[q])
	}
	c.add(slices.Repeat([]int{other}, t.symbols()), true)
	return c
}

// product returns a table of those words of a or b that are asked for, by which of both accept them.
func product(a, b table, asked func(inA, inB bool) bool) table {
	type pair struct{ p, q int } // one of both may be none
	side := len(b.next) + 1
	numbers := slices.Repeat([]int{none}, (len(a.next)+1)*side)
	var all []pair
	number := func(p, q int) int {
		if p == none && q == none {
			return none
		}
		i := (p+1)*side + q + 1
		if numbers[i] == none {
			numbers[i] = len(all)
			all = append(all, pair{p, q})
		}
		return numbers[i]
	}
	number(0, 0)
	var t table
	for i := 0; i < len(all); i++ { // the list grows meanwhile
		p, q := all[i].p, all[i].q
		row := make([]int, a.symbols())
		for x := range row {
			row[x] = number(a.to(p, x), b.to(q, x))
		}
		t.add(row, asked(a.isEnd(p), b.isEnd(q)))
	}
	return t
}

// to returns the state that follows a state, which may be none.
func (t table) to(q, x int) int {
	if q == none {
		return none
	}
	return t.next[q][x]
}

// isEnd reports whether a state, which may be none, is an end.
func (t table) isEnd(q int) bool {
	return q != none && t.ends[q]
}

// first returns the first word in shortlex order, by the numbers of its symbols; false if there is none.
func (t table) first() ([]int, bool) {
	// Breadth first, by the symbols in order, each state is met by its first word.
	by := slices.Repeat([]int{none}, len(t.next)) // the symbol by which each one was met
	from := slices.Clone(by)                      // and from where
	list := []int{0}
	for i := 0; i < len(list); i++ { // the list grows meanwhile
		q := list[i]
		if t.ends[q] {
			var w []int
			for ; q != 0; q = from[q] {
				w = append(w, by[q])
			}
			slices.Reverse(w)
			return w, true
		}
		for x, to := range t.next[q] {
			if to != none && to != 0 && by[to] == none {
				by[to], from[to] = x, q
				list = append(list, to)
			}
		}
	}
	return nil, false
}

// minimal returns the minimal table of the same words, its states in the order in which they are first met; ErrLarge if they are more than most.
func (t table) minimal(most int) (table, api.Errno) {
	t = t.trimmed()
	c, ok := t.classes(most)
	if !ok {
		return table{}, api.ErrLarge
	}
	return t.merged(c), api.OK
}

// trimmed returns a table of only the states that are reached and lead to an end (but 0), in the order in which they are first met, breadth first.
func (t table) trimmed() table {
	live := t.live()
	numbers := slices.Repeat([]int{none}, len(t.next))
	numbers[0] = 0
	list := []int{0}
	var r table
	for i := 0; i < len(list); i++ { // the list grows meanwhile
		q := list[i]
		row := slices.Repeat([]int{none}, t.symbols())
		for x, to := range t.next[q] {
			if to == none || !live[to] {
				continue
			}
			if numbers[to] == none {
				numbers[to] = len(list)
				list = append(list, to)
			}
			row[x] = numbers[to]
		}
		r.add(row, t.ends[q])
	}
	return r
}

// live marks the states from which an end is reached.
func (t table) live() []bool {
	back := t.back()
	live := slices.Clone(t.ends)
	var list []int
	for q, end := range t.ends {
		if end {
			list = append(list, q)
		}
	}
	for i := 0; i < len(list); i++ { // the list grows meanwhile
		for _, s := range back[list[i]] {
			if !live[s.from] {
				live[s.from] = true
				list = append(list, s.from)
			}
		}
	}
	return live
}

// step is a state with the number of a symbol that leads on from it.
type step struct{ from, symbol int }

// back returns for each state the steps that lead to it.
func (t table) back() [][]step {
	back := make([][]step, len(t.next))
	for q, row := range t.next {
		for x, to := range row {
			if to != none {
				back[to] = append(back[to], step{q, x})
			}
		}
	}
	return back
}

// merged returns the table whose states are classes of states of a trimmed one.
func (t table) merged(c *classes) table {
	// A class is first met where the first one of its states is.
	numbers := slices.Repeat([]int{none}, len(c.from))
	var firsts []int
	for q, k := range c.of {
		if numbers[k] == none {
			numbers[k] = len(firsts)
			firsts = append(firsts, q)
		}
	}
	var r table
	for _, q := range firsts {
		row := slices.Clone(t.next[q])
		for x, to := range row {
			if to != none {
				row[x] = numbers[c.of[to]]
			}
		}
		r.add(row, t.ends[q])
	}
	return r
}
