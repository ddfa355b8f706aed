package sole

import (
	"slices"

	"ablaut/api"
)

// move is a move of a reader: by which symbol, by its number, it leads to which state, and what it writes.
type move struct {
	symbol int
	step
}

// last is what a reader writes at a state, if it may end there.
type last struct {
	is  bool
	out string
}

// book is a reader whose moves are found by their states, and whose words are letters.
type book struct {
	begin string
	moves [][]move // from each state, by their symbols
	lasts []last   // of each state
}

// bookOf returns the book of a valid reader.
func bookOf(r api.Reader) *book {
	b := &book{
		begin: letters(r.Begin, r.Sigma),
		moves: make([][]move, r.States),
		lasts: make([]last, r.States),
	}
	for _, m := range r.Moves {
		x, _ := slices.BinarySearch(r.Sigma, m.In)
		b.moves[m.From] = append(b.moves[m.From], move{x, step{m.To, letters(m.Out, r.Sigma)}})
	}
	for _, l := range r.Lasts {
		b.lasts[l.State] = last{true, letters(l.Out, r.Sigma)}
	}
	return b
}

// reader returns the reader of a book.
func (b *book) reader(sigma []string) api.Reader {
	r := api.Reader{Sigma: slices.Clone(sigma), States: len(b.moves), Begin: word(b.begin, sigma)}
	for q, l := range b.moves {
		for _, m := range l {
			r.Moves = append(r.Moves, api.Move{From: q, In: sigma[m.symbol], To: m.to, Out: word(m.out, sigma)})
		}
	}
	for q, l := range b.lasts {
		if l.is {
			r.Lasts = append(r.Lasts, api.Last{State: q, Out: word(l.out, sigma)})
		}
	}
	return r
}

// live marks the states from which a last is reached.
func (b *book) live() []bool {
	back := make([][]int, len(b.moves))
	var ends []int
	for q, l := range b.moves {
		for _, m := range l {
			back[m.to] = append(back[m.to], q)
		}
		if b.lasts[q].is {
			ends = append(ends, q)
		}
	}
	live := make([]bool, len(b.moves))
	for q := range reach(along(back), ends...) {
		live[q] = true
	}
	return live
}
