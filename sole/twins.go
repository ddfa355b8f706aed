package sole

import "ablaut/api"

// maxEffort is how many steps, and letters left to write at these, are gone through before it is given up to find out whether ways are twins. Relations of 6 states and 12 arcs take less than a fifth of it.
const maxEffort = 5000000

// isTwinned reports whether two ways that read the same and come to a circle that both go by reading the same have the same gap ahead of the circle and behind it. A function that is trimmed is made by a reader just if all its ways are such twins. It is ErrLarge if that takes too long.
func (s square) isTwinned() (bool, api.Errno) {
	within := s.ahead()
	most := len(s.a.ends) * len(s.a.ends) // of the gaps of twins: circles add nothing, and without them the ways take a step for each pair of states at most
	gaps := map[spot]map[gap]bool{}
	type visit struct {
		at spot
		g  gap
	}
	var todo []visit
	// Of twins, those that go on to a circle on which something is written are never apart; and how far the one is ahead tells what the gap is, because it is written on the circle, too.
	meet := func(at spot, g gap) bool {
		if !within[at] || gaps[at][g] {
			return true
		}
		if gaps[at] == nil {
			gaps[at] = map[gap]bool{}
		}
		gaps[at][g] = true
		todo = append(todo, visit{at, g})
		return !g.apart && len(g.a)+len(g.b) <= most && len(gaps[at]) <= 2*most+1
	}
	twins := meet(spot{}, gap{})
	effort := 0
	for i := 0; i < len(todo) && twins; i++ { // the list grows meanwhile
		if effort > maxEffort {
			return false, api.ErrLarge
		}
		v := todo[i]
		s.onward(v.at, func(to spot, a, b string) {
			effort += 1 + len(v.g.a) + len(v.g.b)
			twins = twins && meet(to, v.g.after(a, b))
		})
	}
	return twins, api.OK
}

// ahead returns the spots to which two ways lead from which both go on to a circle on which something is written.
func (s square) ahead() map[spot]bool {
	rings := s.rings()
	var begins []spot
	for at, ring := range rings {
		s.onward(at, func(to spot, a, b string) {
			if rings[to] == ring && a+b != "" {
				begins = append(begins, at)
			}
		})
	}
	return reach(func(at spot, add func(spot)) {
		s.back(at, func(from spot) {
			if _, reached := rings[from]; reached {
				add(from)
			}
		})
	}, begins...)
}

// rings returns a number for each spot to which two ways lead: the same of two just if each one leads to the other.
func (s square) rings() map[spot]int {
	rings := map[spot]int{}
	met := map[spot]int{} // when one came to a spot first
	var open []spot       // those that are met and have no number yet
	var visit func(at spot) int
	// It returns the earliest one that is open among those to which a spot leads, as far as that is seen.
	visit = func(at spot) int {
		now := len(met)
		met[at] = now
		open = append(open, at)
		low := now
		s.onward(at, func(to spot, _, _ string) {
			if _, closed := rings[to]; closed {
				return
			}
			early, there := met[to]
			if !there {
				early = visit(to)
			}
			low = min(low, early)
		})
		for low == now {
			last := open[len(open)-1]
			open = open[:len(open)-1]
			rings[last] = now
			if last == at {
				break
			}
		}
		return low
	}
	visit(spot{})
	return rings
}
