package expr

import (
	"math/bits"
	"slices"

	"ablaut/api"
)

// maxPicked is how many symbols a word may have that is asked for where symbols are picked out of it.
const maxPicked = 10

// picks reports whether an expression has words that are told by symbols picked out of them, not by stretches alone.
func picks(e api.Expr) bool {
	return !every(e, func(x api.Expr) bool { return x.Op != api.EShuffle && x.Op != api.EIgnore })
}

// part is some symbols of a word, in their order: bit i is set if the symbol i is one of them. A word has at most MaxWord symbols, so the bits are enough.
type part uint64

// whole returns the part that is all of a word.
func whole(w []string) part { return 1<<len(w) - 1 }

// first returns the first symbol of a part that is not empty.
func (p part) first() part { return p & -p }

// cuts goes through the cuts of a part into two, the first one of which grows.
func (p part) cuts(yield func(ahead, behind part) bool) {
	ahead, behind := part(0), p
	for yield(ahead, behind) && behind != 0 {
		x := behind.first()
		ahead |= x
		behind &^= x
	}
}

// picked goes through all parts of a part, itself and the empty one too.
func (p part) picked(yield func(x part) bool) {
	for x := p; yield(x) && x != 0; {
		x = (x - 1) & p // the next smaller one of p's bits alone
	}
}

// meaning reports of each part of one word whether it is a word of an expression.
type meaning func(p part) bool

// meaningOf returns the meaning of a valid expression for the parts of w, whose symbols the alphabet has.
func meaningOf(e api.Expr, w []string) meaning {
	return value(e, meanings(w))
}

// meanings returns the operations of meanings for the parts of w.
func meanings(w []string) map[int]func(s string, l []meaning) meaning {
	return map[int]func(s string, l []meaning) meaning{
		api.ESym:     func(s string, l []meaning) meaning { return symbol(s, w) },
		api.EAny:     func(s string, l []meaning) meaning { return isOne },
		api.ENone:    func(s string, l []meaning) meaning { return isEmpty },
		api.EVoid:    func(s string, l []meaning) meaning { return not(anything) },
		api.EChain:   func(s string, l []meaning) meaning { return chain(l...) },
		api.EOr:      func(s string, l []meaning) meaning { return either(l...) },
		api.EAnd:     func(s string, l []meaning) meaning { return both(l...) },
		api.EBut:     func(s string, l []meaning) meaning { return both(l[0], not(l[1])) },
		api.EStar:    func(s string, l []meaning) meaning { return star(l[0]) },
		api.EPlus:    func(s string, l []meaning) meaning { return chain(l[0], star(l[0])) },
		api.EOpt:     func(s string, l []meaning) meaning { return either(l[0], isEmpty) },
		api.ENot:     func(s string, l []meaning) meaning { return not(l[0]) },
		api.EHas:     func(s string, l []meaning) meaning { return chain(anything, l[0], anything) },
		api.EIgnore:  func(s string, l []meaning) meaning { return ignore(l[0], star(l[1])) },
		api.EOnly:    func(s string, l []meaning) meaning { return only(l[0], l[1], l[2]) },
		api.EShuffle: func(s string, l []meaning) meaning { return shuffle(l[0], l[1]) },
	}
}

func anything(part) bool { return true }

func isEmpty(p part) bool { return p == 0 }

func isOne(p part) bool { return bits.OnesCount64(uint64(p)) == 1 }

// symbol is the meaning of one symbol.
func symbol(s string, w []string) meaning {
	return func(p part) bool { return isOne(p) && w[bits.TrailingZeros64(uint64(p))] == s }
}

func not(a meaning) meaning {
	return func(p part) bool { return !a(p) }
}

func either(l ...meaning) meaning {
	return func(p part) bool {
		return slices.ContainsFunc(l, func(a meaning) bool { return a(p) })
	}
}

func both(l ...meaning) meaning {
	return func(p part) bool {
		return !slices.ContainsFunc(l, func(a meaning) bool { return !a(p) })
	}
}

// remembered returns the same meaning, which is asked only once of each part: parts that are cut in many ways are asked for again and again.
func remembered(a meaning) meaning {
	known := map[part]bool{}
	return func(p part) bool {
		is, there := known[p]
		if !there {
			is = a(p)
			known[p] = is
		}
		return is
	}
}

// chain is the meaning of one or more meanings one behind the other.
func chain(l ...meaning) meaning {
	a := l[0]
	if len(l) == 1 {
		return a
	}
	b := chain(l[1:]...)
	return remembered(func(p part) bool {
		for x, y := range p.cuts {
			if a(x) && b(y) {
				return true
			}
		}
		return false
	})
}

// star is the meaning of any number of a, one behind the other.
func star(a meaning) meaning {
	var s meaning
	s = remembered(func(p part) bool {
		for x, y := range p.cuts {
			// What is empty is left out: it leads no further.
			if x != 0 && a(x) && s(y) {
				return true
			}
		}
		return p == 0
	})
	return s
}

// only is the meaning of EOnly.
func only(a, l, r meaning) meaning {
	ends, begins := chain(anything, l), chain(r, anything)
	return remembered(func(p part) bool {
		for x, rest := range p.cuts {
			for y, z := range rest.cuts {
				if a(y) && !(ends(x) && begins(z)) {
					return false
				}
			}
		}
		return true
	})
}

// shuffle is the meaning of EShuffle.
func shuffle(a, b meaning) meaning {
	return remembered(func(p part) bool {
		for x := range p.picked {
			if a(x) && b(p&^x) {
				return true
			}
		}
		return false
	})
}

// ignore is the meaning of EIgnore, where put tells what may be put in at one place.
func ignore(a, put meaning) meaning {
	return remembered(func(p part) bool {
		for x := range p.picked {
			if a(x) && isPut(p, x, put) {
				return true
			}
		}
		return false
	})
}

// isPut reports whether p comes from x by what may be put in at one place, at each place.
func isPut(p, x part, put meaning) bool {
	gap := part(0)
	for p != 0 {
		next := p.first()
		p &^= next
		if x&next == 0 {
			gap |= next
			continue
		}
		if !put(gap) {
			return false
		}
		gap = 0
	}
	return put(gap)
}
