package sole

import "ablaut/api"

// spot is where two ways are that read the same word: the state of the one, that of the other, and 0, or what the one has just read and the other one has not yet.
type spot [3]int

// square is two relations whose ways are gone side by side. Of each two ways that read the same word there is one order of their steps: ahead of a symbol both write what they write by nothing, then the one reads the symbol, and then the other.
type square struct{ a, b *relation }

// self returns the square of a valid relation with itself.
func self(n api.Net) square {
	r := relationOf(n)
	return square{r, r}
}

// onward calls step with each step from a spot, and what the one and the other way write by it.
func (s square) onward(at spot, step func(to spot, a, b string)) {
	p, q, x := at[0], at[1], at[2]
	for _, t := range s.b.onward[q][x] { // also where x is 0
		step(spot{p, t.to}, "", t.out)
	}
	if x != 0 {
		return
	}
	for y, l := range s.a.onward[p] {
		for _, t := range l {
			step(spot{t.to, q, y}, t.out, "")
		}
	}
}

// back calls add with each spot from which a step leads to one.
func (s square) back(at spot, add func(spot)) {
	p, q, x := at[0], at[1], at[2]
	for _, from := range s.a.back[p][x] { // also where x is 0
		add(spot{from, q})
	}
	if x != 0 {
		return
	}
	for y, l := range s.b.back[q] {
		for _, from := range l {
			add(spot{p, from, y})
		}
	}
}

// isEnd reports whether both ways may end.
func (s square) isEnd(at spot) bool {
	return at[2] == 0 && s.a.ends[at[0]] && s.b.ends[at[1]]
}

// ending returns the spots from which both ways go on to an end.
func (s square) ending() map[spot]bool {
	var ends []spot
	for p := range s.a.ends {
		for q := range s.b.ends {
			if at := (spot{p, q}); s.isEnd(at) {
				ends = append(ends, at)
			}
		}
	}
	return reach(s.back, ends...)
}

// agrees reports whether no word has two ways, one of each relation, that write unlike words.
func (s square) agrees() bool {
	ending := s.ending()
	left := map[spot]gap{} // what is left to write
	var todo []spot
	// From a spot on both write what they write, whatever they have written. So two that go on to an end write the same in all just if all come to the spot with one gap.
	meet := func(at spot, g gap) bool {
		if old, there := left[at]; there {
			return old == g
		}
		if !ending[at] {
			return true
		}
		left[at] = g
		todo = append(todo, at)
		return !g.apart && (!s.isEnd(at) || g == gap{})
	}
	alike := meet(spot{}, gap{})
	for i := 0; i < len(todo) && alike; i++ { // the list grows meanwhile
		g := left[todo[i]]
		s.onward(todo[i], func(to spot, a, b string) {
			alike = alike && meet(to, g.after(a, b))
		})
	}
	return alike
}

// parts reports whether some word has two ways, one of each relation, that go through unlike states.
func (s square) parts() bool {
	ending := s.ending()
	for at := range reach(func(at spot, add func(spot)) {
		s.onward(at, func(to spot, _, _ string) {
			if ending[to] {
				add(to)
			}
		})
	}, spot{}) {
		if at[2] == 0 && at[0] != at[1] {
			return true
		}
	}
	return false
}
