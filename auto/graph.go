package auto

import (
	"slices"

	"ablaut/api"
)

// move is an arc with a symbol, known by its number in the alphabet, that leads to a state.
type move struct{ symbol, to int }

// graph is an acceptor whose arcs are found by their states.
type graph struct {
	sigma     []string
	ends      []bool
	moves     [][]move // from each state
	empties   [][]int  // where empty arcs lead from each state
	backMoves [][]int  // whence arcs with symbols lead to each state
	backEmpty [][]int  // whence empty arcs lead to each state
}

// index returns the graph of a valid acceptor.
func index(n api.Net) *graph {
	g := &graph{
		sigma:     n.Sigma,
		ends:      make([]bool, n.States),
		moves:     make([][]move, n.States),
		empties:   make([][]int, n.States),
		backMoves: make([][]int, n.States),
		backEmpty: make([][]int, n.States),
	}
	for _, a := range n.Arcs {
		if a.In == "" {
			g.empties[a.From] = append(g.empties[a.From], a.To)
			g.backEmpty[a.To] = append(g.backEmpty[a.To], a.From)
			continue
		}
		x, _ := slices.BinarySearch(n.Sigma, a.In)
		g.moves[a.From] = append(g.moves[a.From], move{x, a.To})
		g.backMoves[a.To] = append(g.backMoves[a.To], a.From)
	}
	for _, d := range n.Ends {
		g.ends[d.State] = true
	}
	return g
}

// leads returns the states that a word leads to.
func (g *graph) leads(w []string) map[int]bool {
	at := g.closed([]int{0})
	for _, s := range w {
		x, in := slices.BinarySearch(g.sigma, s)
		if !in {
			return nil
		}
		var to []int
		for q := range at {
			for _, m := range g.moves[q] {
				if m.symbol == x {
					to = append(to, m.to)
				}
			}
		}
		at = g.closed(to)
	}
	return at
}

// closed returns the states of a list, and those that empty arcs lead to from these. It uses the list up.
func (g *graph) closed(todo []int) map[int]bool {
	at := map[int]bool{}
	for len(todo) > 0 {
		q := todo[len(todo)-1]
		todo = todo[:len(todo)-1]
		if !at[q] {
			at[q] = true
			todo = append(todo, g.empties[q]...)
		}
	}
	return at
}

// anyOf reports whether one of the states is marked.
func anyOf(at map[int]bool, marked []bool) bool {
	for q := range at {
		if marked[q] {
			return true
		}
	}
	return false
}

// pool is a set of states that grows: marked by number, and listed.
type pool struct {
	has  []bool
	list []int
}

func (p *pool) add(q int) {
	if !p.has[q] {
		p.has[q] = true
		p.list = append(p.list, q)
	}
}

// follow adds all states to which those of the pool lead by the arcs.
func (p *pool) follow(arcs ...[][]int) {
	for i := 0; i < len(p.list); i++ { // the list grows meanwhile
		for _, next := range arcs {
			for _, to := range next[p.list[i]] {
				p.add(to)
			}
		}
	}
}

// live marks the states from which an end is reached.
func (g *graph) live() []bool {
	return g.back(g.backEmpty, g.backMoves)
}

// back marks the ends, and the states from which they are reached by the arcs, which are given from their ends.
func (g *graph) back(arcs ...[][]int) []bool {
	p := pool{has: make([]bool, len(g.ends))}
	for q, end := range g.ends {
		if end {
			p.add(q)
		}
	}
	p.follow(arcs...)
	return p.has
}

// before marks the states from which one symbol, with empty arcs ahead of it, leads to a marked one.
func (g *graph) before(marked []bool) []bool {
	p := pool{has: make([]bool, len(marked))}
	for q, in := range marked {
		if in {
			for _, from := range g.backMoves[q] {
				p.add(from)
			}
		}
	}
	p.follow(g.backEmpty)
	return p.has
}

// hasFrom reports whether there is a word of at least so many symbols.
func (g *graph) hasFrom(length int) bool {
	marked := g.live()
	for range length {
		fewer := g.before(marked)
		// Each state that is marked for one symbol more is marked for these too: where none is lost, none is lost later.
		if slices.Equal(fewer, marked) {
			break
		}
		marked = fewer
	}
	return marked[0]
}

// first returns the first words, at most most of them, and whether there are more.
func (g *graph) first(most int) ([][]string, bool, api.Errno) {
	var l [][]string
	take := func(w []string) bool {
		l = append(l, slices.Clone(w))
		return len(l) <= most
	}
	can := [][]bool{g.back(g.backEmpty)} // for each number of symbols: from where an end is reached by just so many
	for len(can) <= api.MaxWord+1 && g.each(can, take) {
		can = append(can, g.before(can[len(can)-1]))
	}
	if len(l) > most {
		return l[:most:most], true, api.OK
	}
	long := g.hasFrom(api.MaxWord + 1)
	if long && len(l) < most {
		return nil, false, api.ErrLarge
	}
	return l, long, api.OK
}

// each calls take with the words of one length, the last one of can, in ascending order, until it returns false; then it returns false. It goes no way that leads to no word, so that its steps are at most the symbols of what it takes.
func (g *graph) each(can [][]bool, take func(w []string) bool) bool {
	length := len(can) - 1
	if !can[length][0] {
		return true
	}
	steps := g.stepper()
	w := make([]string, 0, length)
	var walk func(at []int) bool
	walk = func(at []int) bool {
		if len(w) == length {
			return take(w)
		}
		for x, to := range steps(at, can[length-len(w)-1]) {
			if len(to) == 0 {
				continue
			}
			w = append(w, g.sigma[x])
			if !walk(to) {
				return false
			}
			w = w[:len(w)-1]
		}
		return true
	}
	return walk(g.begin())
}

// begin returns the states that the empty word leads to.
func (g *graph) begin() []int {
	p := pool{has: make([]bool, len(g.ends))}
	p.add(0)
	p.follow(g.empties)
	return p.list
}

// stepper returns a function that returns for each symbol the states to which it leads from some states; only those that are marked.
func (g *graph) stepper() func(at []int, marked []bool) [][]int {
	// One row for each symbol, empty between two calls: they are made once, because a call may need but few of them.
	seen := make([][]bool, len(g.sigma))
	for x := range seen {
		seen[x] = make([]bool, len(g.ends))
	}
	return func(at []int, marked []bool) [][]int {
		next := make([][]int, len(g.sigma))
		add := func(x, to int) {
			if marked[to] && !seen[x][to] {
				seen[x][to] = true
				next[x] = append(next[x], to)
			}
		}
		for _, q := range at {
			for _, m := range g.moves[q] {
				add(m.symbol, m.to)
			}
		}
		for x := range next {
			for i := 0; i < len(next[x]); i++ { // the list grows meanwhile
				for _, to := range g.empties[next[x][i]] {
					add(x, to)
				}
			}
			for _, q := range next[x] {
				seen[x][q] = false
			}
		}
		return next
	}
}

// subset is a set of states that some word leads to: whether one is an end, and the numbers of the subsets that follow, one for each symbol that leads on.
type subset struct {
	end  bool
	next []int
}

// subsets returns all subsets, that of the empty word first; false if they are more than MaxSubsets.
func (g *graph) subsets() ([]subset, bool) {
	all := slices.Repeat([]bool{true}, len(g.ends)) // states from which no end is reached make unlike subsets, too
	steps := g.stepper()
	numbers := map[string]int{}
	var lists [][]int
	number := func(at []int) int {
		k := key(at, len(g.ends))
		if _, there := numbers[k]; !there {
			numbers[k] = len(lists)
			lists = append(lists, at)
		}
		return numbers[k]
	}
	number(g.begin())
	var subsets []subset
	for i := 0; i < len(lists); i++ { // the list grows meanwhile
		s := subset{end: slices.ContainsFunc(lists[i], func(q int) bool { return g.ends[q] })}
		for _, to := range steps(lists[i], all) {
			if len(to) > 0 {
				s.next = append(s.next, number(to))
			}
		}
		subsets = append(subsets, s)
		if len(lists) > api.MaxSubsets {
			return nil, false
		}
	}
	return subsets, true
}

// key returns a text that equal sets of states, and only these, have in common.
func key(at []int, states int) string {
	bits := make([]byte, (states+7)/8)
	for _, q := range at {
		bits[q/8] |= 1 << (q % 8)
	}
	return string(bits)
}

// count returns how many words of a length lead to an end, or MaxCount if there are more. A word leads to one subset: so it is counted once.
func count(subsets []subset, length int) int {
	words := make([]int, len(subsets))
	words[0] = 1
	for range length {
		longer := make([]int, len(subsets))
		for i, many := range words {
			for _, to := range subsets[i].next {
				// Each sum is cut at once: of long words the numbers would not fit an int.
				longer[to] = min(longer[to]+many, api.MaxCount)
			}
		}
		words = longer
	}
	sum := 0
	for i, many := range words {
		if subsets[i].end {
			sum = min(sum+many, api.MaxCount)
		}
	}
	return sum
}
