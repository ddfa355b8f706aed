package rel

import "ablaut/api"

// pair is a state of a composition: one of each relation.
type pair struct{ p, q int }

// exit is a state with what an arc from it has above.
type exit struct {
	state int
	above string
}

// composition is the composition of two relations while it is made.
type composition struct {
	n       api.Net
	numbers map[pair]int
	pairs   []pair // by their numbers
}

// number returns the number of a pair of states, which it gives to those that have none yet.
func (c *composition) number(at pair) int {
	i, there := c.numbers[at]
	if !there {
		i = len(c.pairs)
		c.numbers[at] = i
		c.pairs = append(c.pairs, at)
	}
	return i
}

// add adds an arc from a state to a pair.
func (c *composition) add(from int, above, below string, to pair) {
	i := c.number(to)
	c.n.Arcs = append(c.n.Arcs, api.Arc{From: from, In: above, Out: below, To: i})
}

// composed returns the composition of two relations, trimmed.
func composed(a, b api.Net) api.Net {
	c := composition{n: api.Net{Sigma: a.Sigma}, numbers: map[pair]int{}}
	arcsA, arcsB := leaving(a), exits(b)
	endA, endB := marked(a), marked(b)
	c.number(pair{})
	for i := 0; i < len(c.pairs); i++ { // the list grows meanwhile
		at := c.pairs[i]
		for _, x := range arcsA[at.p] {
			if x.Out == "" {
				c.add(i, x.In, "", pair{x.To, at.q})
				continue
			}
			for _, y := range arcsB[exit{at.q, x.Out}] {
				c.add(i, x.In, y.Out, pair{x.To, y.To})
			}
		}
		for _, y := range arcsB[exit{at.q, ""}] {
			c.add(i, "", y.Out, pair{at.p, y.To})
		}
		if endA[at.p] && endB[at.q] {
			finish(&c.n, i)
		}
	}
	c.n.States = len(c.pairs)
	return trimmed(c.n)
}

// leaving returns the arcs from each state.
func leaving(n api.Net) [][]api.Arc {
	l := make([][]api.Arc, n.States)
	for _, a := range n.Arcs {
		l[a.From] = append(l[a.From], a)
	}
	return l
}

// exits returns the arcs from each state by what they have above.
func exits(n api.Net) map[exit][]api.Arc {
	l := map[exit][]api.Arc{}
	for _, a := range n.Arcs {
		x := exit{a.From, a.In}
		l[x] = append(l[x], a)
	}
	return l
}

// marked tells of each state whether it is an end.
func marked(n api.Net) []bool {
	l := make([]bool, n.States)
	for _, d := range n.Ends {
		l[d.State] = true
	}
	return l
}
