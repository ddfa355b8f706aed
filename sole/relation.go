package sole

import (
	"slices"

	"ablaut/api"
)

// step leads to a state and writes something.
type step struct {
	to  int
	out string
}

// relation is a relation whose arcs are found by a state and by what they read: 0 nothing, or 1 more than the number of a symbol. It has only what is on a way from 0 to an end, and equal arcs once.
type relation struct {
	ends   []bool
	onward [][][]step // from each state
	back   [][][]int  // the states whence arcs lead to each one
	arcs   int
}

// relationOf returns the relation of a valid net.
func relationOf(n api.Net) *relation {
	n = trimmed(n)
	r := &relation{
		ends:   make([]bool, n.States),
		onward: make([][][]step, n.States),
		back:   make([][][]int, n.States),
	}
	for q := range n.States {
		r.onward[q] = make([][]step, len(n.Sigma)+1)
		r.back[q] = make([][]int, len(n.Sigma)+1)
	}
	seen := map[api.Arc]bool{}
	for _, a := range n.Arcs {
		if !seen[a] {
			seen[a] = true
			r.add(a, n.Sigma)
		}
	}
	for _, d := range n.Ends {
		r.ends[d.State] = true
	}
	return r
}

// add adds an arc.
func (r *relation) add(a api.Arc, sigma []string) {
	x := reads(a, sigma)
	s := step{to: a.To}
	if a.Out != "" {
		s.out = letters([]string{a.Out}, sigma)
	}
	r.onward[a.From][x] = append(r.onward[a.From][x], s)
	if !slices.Contains(r.back[a.To][x], a.From) {
		r.back[a.To][x] = append(r.back[a.To][x], a.From)
	}
	r.arcs++
}

// reads returns what an arc reads: 0 nothing, or 1 more than the number of a symbol.
func reads(a api.Arc, sigma []string) int {
	if a.In == "" {
		return 0
	}
	x, _ := slices.BinarySearch(sigma, a.In)
	return x + 1
}

// trimmed returns a net with only the arcs and ends that are on a way from 0 to an end, each as often as it was there; the states keep their numbers.
func trimmed(n api.Net) api.Net {
	onward, back := make([][]int, n.States), make([][]int, n.States)
	for _, a := range n.Arcs {
		onward[a.From] = append(onward[a.From], a.To)
		back[a.To] = append(back[a.To], a.From)
	}
	var ends []int
	for _, d := range n.Ends {
		ends = append(ends, d.State)
	}
	begun, ended := reach(along(onward), 0), reach(along(back), ends...)
	t := api.Net{Sigma: n.Sigma, States: n.States}
	for _, a := range n.Arcs {
		if begun[a.From] && ended[a.To] {
			t.Arcs = append(t.Arcs, a)
		}
	}
	for _, d := range n.Ends {
		if begun[d.State] {
			t.Ends = append(t.Ends, d)
		}
	}
	return t
}

// along returns how one goes on from a state to those of its list.
func along(next [][]int) func(q int, add func(int)) {
	return func(q int, add func(int)) {
		for _, to := range next[q] {
			add(to)
		}
	}
}

// reach returns some things, and those to which one comes from them.
func reach[T comparable](next func(at T, add func(T)), begins ...T) map[T]bool {
	seen := map[T]bool{}
	var todo []T
	add := func(at T) {
		if !seen[at] {
			seen[at] = true
			todo = append(todo, at)
		}
	}
	for _, at := range begins {
		add(at)
	}
	for i := 0; i < len(todo); i++ { // the list grows meanwhile
		next(todo[i], add)
	}
	return seen
}
