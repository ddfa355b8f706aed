package sole

import "ablaut/api"

// early returns the reader with the fewest states that makes the same and writes each symbol as early as it can; false if it is too large.
func (b *book) early() (*book, bool) {
	t := b.trimmed()
	if !t.push() {
		return nil, false
	}
	return t.merged()
}

// trimmed returns a reader that makes the same, with only the states that are reached and lead to a last (but 0), in the order in which they are first met, breadth first.
func (b *book) trimmed() *book {
	live := b.live()
	if !live[0] {
		return &book{moves: make([][]move, 1), lasts: make([]last, 1)}
	}
	numbers := make([]int, len(b.moves)) // 1 more than the new ones: 0 where there is none yet
	numbers[0] = 1
	list := []int{0}
	t := &book{begin: b.begin}
	for i := 0; i < len(list); i++ { // the list grows meanwhile
		var l []move
		for _, m := range b.moves[list[i]] {
			if !live[m.to] {
				continue
			}
			if numbers[m.to] == 0 {
				list = append(list, m.to)
				numbers[m.to] = len(list)
			}
			m.to = numbers[m.to] - 1
			l = append(l, m)
		}
		t.moves = append(t.moves, l)
		t.lasts = append(t.lasts, b.lasts[list[i]])
	}
	return t
}

// merged returns the reader whose states are classes of states of a trimmed one that makes the same of the same from there on; false if they are too many.
func (b *book) merged() (*book, bool) {
	outs := map[string]int{}
	kinds := make([][]int, len(b.moves)) // the numbers of what the moves write
	for q, l := range b.moves {
		for _, m := range l {
			if _, there := outs[m.out]; !there {
				outs[m.out] = len(outs)
			}
			kinds[q] = append(kinds[q], outs[m.out])
		}
	}
	of, many := classes(len(b.lasts), func(q int) last { return b.lasts[q] })
	for {
		finer, more := classes(len(b.lasts), func(q int) string {
			text := digits(nil, of[q])
			for i, m := range b.moves[q] {
				text = digits(text, m.symbol, kinds[q][i], of[m.to])
			}
			return string(text)
		})
		if more > api.MaxSmall {
			return nil, false
		}
		if more == many {
			return b.joined(of), true
		}
		of, many = finer, more
	}
}

// joined returns the reader whose states are classes of states of a trimmed one.
func (b *book) joined(of []int) *book {
	j := &book{begin: b.begin}
	for q, class := range of {
		if class < len(j.moves) {
			continue
		}
		// A class is first met where the first one of its states is.
		l := b.moves[q]
		for i := range l {
			l[i].to = of[l[i].to]
		}
		j.moves = append(j.moves, l)
		j.lasts = append(j.lasts, b.lasts[q])
	}
	return j
}

// classes gives states numbers, in the order in which they are first met: the same to those of the same key. It returns how many there are, too.
func classes[K comparable](states int, key func(q int) K) ([]int, int) {
	numbers := map[K]int{}
	var of []int
	for q := range states {
		k := key(q)
		if _, there := numbers[k]; !there {
			numbers[k] = len(numbers)
		}
		of = append(of, numbers[k])
	}
	return of, len(numbers)
}

// digits adds numbers to a text, each with as many bytes.
func digits(text []byte, l ...int) []byte {
	for _, x := range l {
		text = append(text, byte(x), byte(x>>8), byte(x>>16))
	}
	return text
}
