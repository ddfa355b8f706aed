package rel

import (
	"slices"

	"ablaut/api"
)

// places are, for each state, the places of a word with which it is reached: bit i, if i symbols of the word are read. MaxWord symbols have places for one number.
type places []uint64

// step is an arc that is taken while a word is read above.
type step struct {
	to int
	on uint64 // the places from which it may be taken
	by int    // how many symbols it reads: 0 or 1
}

func (s step) onward(at uint64) uint64 { return (at & s.on) << s.by }
func (s step) back(at uint64) uint64   { return (at >> s.by) & s.on }

// lane has the steps of one direction, by what they write (0: nothing; a symbol: its number in the alphabet and 1) and by the states from which they lead.
type lane struct {
	steps [][][]step
	pass  func(s step, at uint64) uint64 // where a step leads from some places
}

func newLane(symbols, states int, pass func(s step, at uint64) uint64) lane {
	l := lane{steps: make([][][]step, symbols+1), pass: pass}
	for i := range l.steps {
		l.steps[i] = make([][]step, states)
	}
	return l
}

// add adds a step that leads from a state, if it may be taken anywhere.
func (l lane) add(from, symbol int, s step) {
	if s.on != 0 {
		l.steps[symbol][from] = append(l.steps[symbol][from], s)
	}
}

// closed adds what is reached by any number of the first kinds of steps: of one kind those that write nothing, of all kinds whatever they write. It uses the places up.
func (l lane) closed(at places, kinds int) places {
	fresh := slices.Clone(at) // places from which one did not go on yet
	var todo []int
	for q, bits := range at {
		if bits != 0 {
			todo = append(todo, q)
		}
	}
	for i := 0; i < len(todo); i++ { // the list grows meanwhile
		q := todo[i]
		bits := fresh[q]
		fresh[q] = 0
		for _, steps := range l.steps[:kinds] {
			for _, s := range steps[q] {
				more := l.pass(s, bits) &^ at[s.to]
				if more != 0 && fresh[s.to] == 0 {
					todo = append(todo, s.to)
				}
				at[s.to] |= more
				fresh[s.to] |= more
			}
		}
	}
	return at
}

// follow returns what is reached by one of the symbols from first to last.
func (l lane) follow(at places, first, last int) places {
	to := make(places, len(at))
	for symbol := first; symbol <= last; symbol++ {
		for q, bits := range at {
			if bits == 0 {
				continue
			}
			for _, s := range l.steps[symbol][q] {
				to[s.to] |= l.pass(s, bits)
			}
		}
	}
	return l.closed(to, 1)
}

// leads reports whether a symbol leads to some of these places.
func (l lane) leads(at places, symbol int, to places) bool {
	for q, bits := range at {
		if bits == 0 {
			continue
		}
		for _, s := range l.steps[symbol][q] {
			if l.pass(s, bits)&to[s.to] != 0 {
				return true
			}
		}
	}
	return false
}

// meet reports whether some places are the same.
func meet(a, b places) bool {
	for q := range a {
		if a[q]&b[q] != 0 {
			return true
		}
	}
	return false
}

// track is a relation that reads a word above.
type track struct {
	sigma        []string
	onward, back lane
	begin        places // what is reached ahead of all that is written
	end          places // ends with the whole word
	live         places // from where these are reached
}

// along returns the track of a relation and a word.
func along(n api.Net, x []string) *track {
	t := &track{
		sigma:  n.Sigma,
		onward: newLane(len(n.Sigma), n.States, step.onward),
		back:   newLane(len(n.Sigma), n.States, step.back),
		begin:  make(places, n.States),
		end:    make(places, n.States),
	}
	on := placesOf(x)
	for _, d := range n.Ends {
		t.end[d.State] = 1 << len(x)
	}
	for _, a := range n.Arcs {
		t.back.add(a.To, t.number(a.Out), step{a.From, on[a.In], reads(a)})
	}
	t.live = t.back.closed(slices.Clone(t.end), len(t.back.steps))
	for _, a := range n.Arcs {
		s := step{a.To, on[a.In], reads(a)}
		s.on = s.back(t.live[a.To]) // nothing is gone into from where no way leads on
		t.onward.add(a.From, t.number(a.Out), s)
	}
	t.begin[0] = 1
	t.begin = t.onward.closed(t.begin, 1)
	return t
}

// number returns the number of what is written: 0 of nothing.
func (t *track) number(s string) int {
	if s == "" {
		return 0
	}
	i, _ := slices.BinarySearch(t.sigma, s)
	return i + 1
}

// reads returns how many symbols of a word above an arc reads.
func reads(a api.Arc) int {
	if a.In == "" {
		return 0
	}
	return 1
}

// placesOf returns for each symbol the places at which a word goes on with it; for the empty text all places.
func placesOf(x []string) map[string]uint64 {
	on := map[string]uint64{"": 1<<(len(x)+1) - 1}
	for i, s := range x {
		on[s] |= 1 << i
	}
	return on
}

// writes reports whether a word is written below.
func (t *track) writes(y []string) bool {
	at := t.begin
	for _, s := range y {
		i, in := slices.BinarySearch(t.sigma, s)
		if !in {
			return false
		}
		at = t.onward.follow(at, i+1, i+1)
	}
	return meet(at, t.end)
}

// before returns from where one symbol leads to some places.
func (t *track) before(at places) places {
	return t.back.follow(at, 1, len(t.sigma))
}

// hasFrom reports whether a word of at least so many symbols is written.
func (t *track) hasFrom(length int) bool {
	at := t.live
	for range length {
		fewer := t.before(at)
		// Each place from which one symbol more is written is one from which these are: where none is lost, none is lost later.
		if slices.Equal(fewer, at) {
			break
		}
		at = fewer
	}
	return at[0]&1 != 0
}

// first returns the first words that are written, in shortlex order, at most most of them, and whether there are more.
func (t *track) first(most int) ([][]string, bool, api.Errno) {
	var l [][]string
	take := func(w []string) bool {
		l = append(l, slices.Clone(w))
		return len(l) <= most
	}
	root := &branch{at: t.begin}
	can := []places{t.back.closed(slices.Clone(t.end), 1)} // for each number of symbols: from where a word of just so many is written
	for len(can) <= api.MaxWord+1 && t.each(root, can, take) {
		can = append(can, t.before(can[len(can)-1]))
	}
	if len(l) > most {
		return l[:most:most], true, api.OK
	}
	long := t.hasFrom(api.MaxWord + 1)
	if long && len(l) < most {
		return nil, false, api.ErrLarge
	}
	return l, long, api.OK
}

// branch is what a beginning of words leads to. Branches are kept from length to length, because longer words begin as shorter ones do.
type branch struct {
	at   places
	next map[int]*branch // by symbols
}

// child returns the branch behind a symbol.
func (t *track) child(b *branch, symbol int) *branch {
	if b.next[symbol] == nil {
		if b.next == nil {
			b.next = map[int]*branch{}
		}
		b.next[symbol] = &branch{at: t.onward.follow(b.at, symbol, symbol)}
	}
	return b.next[symbol]
}

// each calls take with the words of one length, the last one of can, in ascending order, until it returns false; then it returns false. It goes no way that leads to no word, so that its steps are at most the symbols of what it takes.
func (t *track) each(root *branch, can []places, take func(w []string) bool) bool {
	length := len(can) - 1
	w := make([]string, 0, length)
	var walk func(b *branch) bool
	walk = func(b *branch) bool {
		left := length - len(w)
		if left == 0 {
			return take(w)
		}
		for i, s := range t.sigma {
			if !t.onward.leads(b.at, i+1, can[left-1]) {
				continue
			}
			w = append(w, s)
			if !walk(t.child(b, i+1)) {
				return false
			}
			w = w[:len(w)-1]
		}
		return true
	}
	return !meet(root.at, can[length]) || walk(root)
}

// image returns an acceptor of the words that a relation writes below a word.
func image(n api.Net, x []string) api.Net {
	on := placesOf(x)
	// Each state stands once for each place of the word.
	wide := len(x) + 1
	m := api.Net{Sigma: n.Sigma, States: n.States * wide}
	for _, a := range n.Arcs {
		for i := range wide {
			if on[a.In]>>i&1 != 0 {
				m.Arcs = append(m.Arcs, api.Arc{From: a.From*wide + i, In: a.Out, Out: a.Out, To: a.To*wide + i + reads(a)})
			}
		}
	}
	for _, q := range ends(n) {
		finish(&m, q*wide+len(x))
	}
	return trimmed(m)
}
