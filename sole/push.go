package sole

import (
	"strings"

	"ablaut/api"
)

// push writes each symbol of a trimmed reader as early as it can; false if a word grows too long.
func (b *book) push() bool {
	if !b.lasts[0].is && len(b.moves[0]) == 0 {
		return true // it makes nothing
	}
	l := b.strands()
	sure := b.sure(l)
	endings := make([]string, len(l))
	for q := range endings {
		endings[q] = l.ending(q, sure[q])
	}
	// grown returns what is written ahead of a state: what is sure there is added, and what is written earlier taken off.
	grown := func(out string, q, less int) (string, bool) {
		many := len(out) + sure[q] - less
		if many > api.MaxWord {
			return "", false
		}
		out += endings[q]
		return out[len(out)-many:], true
	}
	var ok bool
	if b.begin, ok = grown(b.begin, 0, 0); !ok {
		return false
	}
	for q, moves := range b.moves {
		for i, m := range moves {
			if moves[i].out, ok = grown(m.out, m.to, sure[q]); !ok {
				return false
			}
		}
		if b.lasts[q].is {
			b.lasts[q].out = b.lasts[q].out[sure[q]:]
		}
	}
	return true
}

// strand is something that is written, and the strand of a state, or none, behind it.
type strand struct {
	out  string
	next int
}

// strands has for each state of a reader what is written on one of the ways from it to a last. These may be too long to be written out, because the ways have ends in common.
type strands []strand

// strands returns such ways of a trimmed reader that makes something, those with the fewest moves: where there is a last it is the way.
func (b *book) strands() strands {
	l := make(strands, len(b.moves))
	back := b.back()
	var list []int
	known := make([]bool, len(l))
	add := func(q int, s strand) {
		if !known[q] {
			known[q] = true
			l[q] = s
			list = append(list, q)
		}
	}
	for q, end := range b.lasts {
		if end.is {
			add(q, strand{end.out, none})
		}
	}
	for i := 0; i < len(list); i++ { // the list grows meanwhile
		for _, s := range back[list[i]] {
			add(s.to, strand{s.out, list[i]})
		}
	}
	return l
}

// back returns for each state the moves that lead to it, each with the state from which it does.
func (b *book) back() [][]step {
	back := make([][]step, len(b.moves))
	for q, l := range b.moves {
		for _, m := range l {
			back[m.to] = append(back[m.to], step{q, m.out})
		}
	}
	return back
}

// sure returns for each state how much of its strand all ways from it to a last begin with.
func (b *book) sure(l strands) []int {
	sure := make([]int, len(l))
	for q := range sure {
		sure[q] = l.length(q)
		for _, m := range b.moves[q] {
			sure[q] = l.shared(l[q], strand{m.out, m.to}, sure[q])
		}
	}
	// Behind a move, the ways may leave the strand of the state to which it leads. The state with the least is done first: no other one makes it less.
	back := b.back()
	done := make([]bool, len(l))
	for range l {
		q := least(sure, done)
		done[q] = true
		for _, s := range back[q] {
			sure[s.to] = min(sure[s.to], len(s.out)+sure[q])
		}
	}
	return sure
}

// least returns the place of the least number that is not done.
func least(l []int, done []bool) int {
	q := none
	for i, x := range l {
		if !done[i] && (q == none || x < l[q]) {
			q = i
		}
	}
	return q
}

// length returns how long the strand of a state is.
func (l strands) length(q int) int {
	n := 0
	for ; q != none; q = l[q].next {
		n += len(l[q].out)
	}
	return n
}

// shared returns how many letters two strands begin with in common, if these are at most most. The first one is at least so long.
func (l strands) shared(s, t strand, most int) int {
	n := 0
	for n < most {
		s, t = l.filled(s), l.filled(t)
		if s == t {
			return most
		}
		k := shared(s.out, t.out)
		if k == 0 {
			break
		}
		s.out, t.out = s.out[k:], t.out[k:]
		n += k
	}
	return min(n, most)
}

// filled returns a strand of the same letters that begins with some of them, if it has any.
func (l strands) filled(s strand) strand {
	for s.out == "" && s.next != none {
		s = l[s.next]
	}
	return s
}

// ending returns the last letters, at most as many as a word has, of so many first ones of the strand of a state.
func (l strands) ending(q, many int) string {
	skip := max(0, many-api.MaxWord)
	var b strings.Builder
	for many > 0 {
		out := l[q].out[:min(many, len(l[q].out))]
		many -= len(out)
		skipped := min(skip, len(out))
		skip -= skipped
		b.WriteString(out[skipped:])
		q = l[q].next
	}
	return b.String()
}
