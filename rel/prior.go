package rel

import (
	"ablaut/api"
	"ablaut/det"
)

// prior returns a relation of the pairs of a, and of those of b whose word above is above in none of a; ErrLarge if that is too large.
func prior(a, b api.Net) (api.Net, api.Errno) {
	// Only what is on a way: other states may make more subsets.
	m, e := settled(sides{in, in}.of(trimmed(a)))
	if e != api.OK {
		return api.Net{}, e
	}
	n := either(a, composed(others(m), b))
	// Each subset may stand with each state of b, so that many small nets have more than a net may have.
	if n.States > api.MaxStates || len(n.Arcs) > api.MaxArcs {
		return api.Net{}, api.ErrLarge
	}
	return n, api.OK
}

// settled returns an acceptor of the same words that has one way for each beginning at most, and is minimal if it is small; ErrLarge if it has too many subsets.
func settled(n api.Net) (api.Net, api.Errno) {
	// A composition may have more states than det takes, and few subsets nevertheless.
	if n.States > api.MaxSmall {
		d, e := determined(n)
		if e != api.OK || d.States > api.MaxSmall {
			return d, e
		}
		n = d
	}
	return det.Min(n)
}

// determined returns an acceptor of the same words whose states are the subsets; ErrLarge if these are too many.
func determined(n api.Net) (api.Net, api.Errno) {
	t := along(sides{nothing, out}.of(n), nil) // each word is written below the empty one
	d := api.Net{Sigma: n.Sigma}
	numbers := map[string]int{}
	var all []places
	number := func(at places) int {
		k := at.key()
		i, there := numbers[k]
		if !there {
			i = len(all)
			numbers[k] = i
			all = append(all, at)
		}
		return i
	}
	number(t.begin)
	for i := 0; i < len(all); i++ { // the list grows meanwhile
		if len(all) > api.MaxSubsets {
			return api.Net{}, api.ErrLarge
		}
		for x, s := range n.Sigma {
			if t.onward.leads(all[i], x+1, t.live) {
				to := number(t.onward.follow(all[i], x+1, x+1))
				d.Arcs = append(d.Arcs, api.Arc{From: i, In: s, Out: s, To: to})
			}
		}
		if meet(all[i], t.end) {
			finish(&d, i)
		}
	}
	d.States = len(all)
	return d, api.OK
}

// key returns a text that equal places of an empty word, and only these, have in common: there is one for each state.
func (p places) key() string {
	k := make([]byte, (len(p)+7)/8)
	for q, bits := range p {
		k[q/8] |= byte(bits&1) << (q % 8)
	}
	return string(k)
}

// others returns a relation of each word that a settled acceptor does not accept with itself.
func others(m api.Net) api.Net {
	// One state more, from which no way leads back, is where words go that the acceptor does not go on with.
	off := m.States
	n := api.Net{Sigma: m.Sigma, States: m.States + 1}
	arcs := exits(m)
	is := marked(m)
	for q := range n.States {
		for _, s := range m.Sigma {
			to := off
			for _, a := range arcs[exit{q, s}] {
				to = a.To
			}
			n.Arcs = append(n.Arcs, api.Arc{From: q, In: s, Out: s, To: to})
		}
		if q == off || !is[q] {
			finish(&n, q)
		}
	}
	return n
}
