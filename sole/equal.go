package sole

import "slices"

// firstUnlike returns the first word, in shortlex order, of which two readers make unlike words, or only one of them something; false if there is none.
func firstUnlike(a, b *book, symbols int) (string, bool) {
	a, b = a.trimmed(), b.trimmed()
	type visit struct {
		at     [2]int
		g      gap
		from   int // the visit ahead of it
		symbol int // by which it came about
	}
	gaps := map[[2]int][]gap{}
	var l []visit
	meet := func(v visit) {
		if v.at[0] == none || v.at[1] == none {
			v.g = gap{} // what one alone makes is unlike, whatever it is
		}
		// Whatever both write from two states on, it does not close two unlike gaps: with a third one, the word is a later one.
		if v.at == [2]int{none, none} || len(gaps[v.at]) == 2 || slices.Contains(gaps[v.at], v.g) {
			return
		}
		gaps[v.at] = append(gaps[v.at], v.g)
		l = append(l, v)
	}
	meet(visit{g: gap{}.after(a.begin, b.begin), from: none})
	// Breadth first, by the symbols in order, each of these is met by its first word.
	for i := 0; i < len(l); i++ { // the list grows meanwhile
		v := l[i]
		if unlikeEnds(a.last(v.at[0]), b.last(v.at[1]), v.g) {
			w := ""
			for ; v.from != none; v = l[v.from] {
				w = string([]byte{byte(v.symbol)}) + w
			}
			return w, true
		}
		for x := range symbols {
			p, q := a.next(v.at[0], x), b.next(v.at[1], x)
			meet(visit{[2]int{p.to, q.to}, v.g.after(p.out, q.out), i, x})
		}
	}
	return "", false
}

// unlikeEnds reports whether two readers do not make the same of a word behind which they have these lasts.
func unlikeEnds(a, b last, g gap) bool {
	if !a.is || !b.is {
		return a.is || b.is
	}
	return g.after(a.out, b.out) != gap{}
}

// next returns where a symbol leads from a state, which may be none.
func (b *book) next(q, symbol int) step {
	if q != none {
		i, there := slices.BinarySearchFunc(b.moves[q], symbol, func(m move, x int) int { return m.symbol - x })
		if there {
			return b.moves[q][i].step
		}
	}
	return step{to: none}
}

// last returns the last of a state, which may be none.
func (b *book) last(q int) last {
	if q == none {
		return last{}
	}
	return b.lasts[q]
}
