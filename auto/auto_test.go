package auto

import (
	"math"
	"slices"
	"strings"
	"testing"

	"ablaut/api"
	"ablaut/syms"
)

var ab = []string{"a", "b"}

// arc returns an arc of an acceptor.
func arc(from int, s string, to int) api.Arc {
	return api.Arc{From: from, In: s, Out: s, To: to}
}

// net returns an acceptor over `a`, `b`.
func net(states int, ends []int, arcs ...api.Arc) api.Net {
	n := api.Net{Sigma: ab, States: states, Arcs: arcs}
	for _, q := range ends {
		n.Ends = append(n.Ends, api.End{State: q})
	}
	return n
}

// word returns the word of symbols of one byte.
func word(s string) []string {
	if s == "" {
		return nil
	}
	return strings.Split(s, "")
}

// wordsOf returns the words of a list that blanks divide; `-` is the empty word.
func wordsOf(s string) [][]string {
	var l [][]string
	for _, f := range strings.Fields(s) {
		l = append(l, word(strings.Trim(f, "-")))
	}
	return l
}

// ones returns the symbols of one byte, ascending, at most n.
func ones(n int) []string {
	var l []string
	for c := 33; c <= 126 && len(l) < n; c++ {
		if c != '<' && c != '>' {
			l = append(l, string(rune(c)))
		}
	}
	return l
}

// line returns an acceptor of the one word of length times `a`, with a state for each symbol.
func line(length int) api.Net {
	n := net(length+1, []int{length})
	for q := range length {
		n.Arcs = append(n.Arcs, arc(q, "a", q+1))
	}
	return n
}

// all returns an acceptor of all words over an alphabet.
func all(sigma []string) api.Net {
	n := api.Net{Sigma: sigma, States: 1, Ends: []api.End{{}}}
	for _, s := range sigma {
		n.Arcs = append(n.Arcs, arc(0, s, 0))
	}
	return n
}

func same(a, b [][]string) bool {
	return slices.EqualFunc(a, b, slices.Equal[[]string])
}

func sameNet(a, b api.Net) bool {
	return a.States == b.States && slices.Equal(a.Sigma, b.Sigma) && slices.Equal(a.Arcs, b.Arcs) && slices.Equal(a.Ends, b.Ends)
}

// badNets are nets with their errors.
func badNets() []struct {
	n    api.Net
	want api.Errno
} {
	type bad = struct {
		n    api.Net
		want api.Errno
	}
	good := net(2, []int{1}, arc(0, "a", 1))
	with := func(change func(n *api.Net)) api.Net {
		n := Copy(good)
		change(&n)
		return n
	}
	return []bad{
		{with(func(n *api.Net) { n.States = api.MaxStates + 1 }), api.ErrLarge},
		{with(func(n *api.Net) { n.States = math.MaxInt }), api.ErrLarge},
		{with(func(n *api.Net) { n.Arcs = slices.Repeat(n.Arcs, api.MaxArcs+1) }), api.ErrLarge},
		{with(func(n *api.Net) { n.Ends = slices.Repeat(n.Ends, api.MaxArcs+1) }), api.ErrLarge},
		{with(func(n *api.Net) { n.Sigma = ones(api.MaxSigma + 1) }), api.ErrLarge},
		{with(func(n *api.Net) { n.Sigma = []string{"b", "a", strings.Repeat("c", api.MaxSym+1)} }), api.ErrLarge},
		{with(func(n *api.Net) { n.Sigma = []string{"b", "a"} }), api.ErrArg},
		{with(func(n *api.Net) { n.Sigma = []string{"", "a"} }), api.ErrArg},
		{with(func(n *api.Net) { n.Sigma = []string{"<", "a"} }), api.ErrArg},
		{with(func(n *api.Net) { n.States = 0 }), api.ErrArg},
		{api.Net{}, api.ErrArg},
		{api.Net{States: -1}, api.ErrArg},
		{api.Net{States: math.MinInt}, api.ErrArg},
		{with(func(n *api.Net) { n.Arcs[0].From = -1 }), api.ErrArg},
		{with(func(n *api.Net) { n.Arcs[0].From = 2 }), api.ErrArg},
		{with(func(n *api.Net) { n.Arcs[0].To = -1 }), api.ErrArg},
		{with(func(n *api.Net) { n.Arcs[0].To = 2 }), api.ErrArg},
		{with(func(n *api.Net) { n.Arcs[0].To = math.MaxInt }), api.ErrArg},
		{with(func(n *api.Net) { n.Ends[0].State = -1 }), api.ErrArg},
		{with(func(n *api.Net) { n.Ends[0].State = 2 }), api.ErrArg},
		{with(func(n *api.Net) { n.Arcs[0].In, n.Arcs[0].Out = "c", "c" }), api.ErrArg},
		{with(func(n *api.Net) { n.Arcs[0].In = "c" }), api.ErrArg},
		{with(func(n *api.Net) { n.Arcs[0].Out = "aa" }), api.ErrArg},
		{with(func(n *api.Net) { n.Arcs[0].In = "b" }), api.ErrType},
		{with(func(n *api.Net) { n.Arcs[0].Out = "" }), api.ErrType},
		{with(func(n *api.Net) { n.Arcs[0].In = "" }), api.ErrType},
		{with(func(n *api.Net) { n.Arcs[0].Cost = 1 }), api.ErrType},
		{with(func(n *api.Net) { n.Arcs[0].Cost = -1 }), api.ErrType},
		{with(func(n *api.Net) { n.Ends[0].Cost = 1 }), api.ErrType},
		{with(func(n *api.Net) { n.Ends[0].Cost = math.MinInt }), api.ErrType},
		// Of several errors the one named first, wherever in the net it stands.
		{with(func(n *api.Net) { n.States = api.MaxStates + 1; n.Sigma = []string{"b", "a"} }), api.ErrLarge},
		{with(func(n *api.Net) { n.Ends = slices.Repeat(n.Ends, api.MaxArcs+1); n.States = 0 }), api.ErrLarge},
		{with(func(n *api.Net) { n.Sigma = ones(api.MaxSigma + 1); n.States = 0 }), api.ErrLarge},
		{with(func(n *api.Net) { n.Sigma = []string{"b", "a"}; n.Arcs[0].Cost = 1 }), api.ErrArg},
		{with(func(n *api.Net) { n.Arcs[0].Cost = 1; n.Ends[0].State = 2 }), api.ErrArg},
		{with(func(n *api.Net) { n.Arcs[0].Out = "b"; n.Arcs = append(n.Arcs, arc(0, "c", 1)) }), api.ErrArg},
	}
}

func TestValidate(t *testing.T) { // P2.1
	for i, c := range badNets() {
		if e := Validate(c.n); e != c.want {
			t.Errorf("net %d: %d, not %d", i, e, c.want)
		}
	}
	large := net(api.MaxStates, nil)
	large.Arcs = slices.Repeat([]api.Arc{arc(api.MaxStates-1, "b", 0), arc(1, "", 1)}, api.MaxArcs/2)
	large.Ends = slices.Repeat([]api.End{{State: api.MaxStates - 1}}, api.MaxArcs)
	for i, n := range []api.Net{
		{States: 1},
		{Sigma: []string{}, States: 1, Arcs: []api.Arc{{}}, Ends: []api.End{{}}},
		all(ones(api.MaxSigma)),
		all([]string{strings.Repeat("a", api.MaxSym)}),
		net(2, []int{1, 0, 1}, arc(1, "b", 0), arc(0, "", 1), arc(1, "b", 0)),
		large,
	} {
		if e := Validate(n); e != api.OK {
			t.Errorf("good net %d: %d", i, e)
		}
	}
}

// calls calls all functions that take an acceptor, and returns whether their other results are zero, and their errors.
func calls(n api.Net, w []string, most, length int) (zero []bool, errors []api.Errno) {
	add := func(z bool, e api.Errno) {
		zero = append(zero, z)
		errors = append(errors, e)
	}
	is, e := Accepts(n, w)
	add(!is, e)
	is, e = Empty(n)
	add(!is, e)
	is, e = Finite(n)
	add(!is, e)
	l, more, e := Words(n, most)
	add(len(l) == 0 && !more, e)
	many, e := Count(n, length)
	add(many == 0, e)
	x, is, e := First(n)
	add(len(x) == 0 && !is, e)
	is, e = Begins(n, w)
	add(!is, e)
	x, is, e = Next(n, w)
	add(len(x) == 0 && !is, e)
	r, e := Reverse(n)
	add(sameNet(r, api.Net{}), e)
	return zero, errors
}

func TestErrorsOfNets(t *testing.T) { // P2.1, R1, R2, R3
	long := []string{strings.Repeat("a", api.MaxSym+1)}
	for i, c := range badNets() {
		for _, w := range [][]string{nil, {"a"}, {"c"}, {""}, long} { // the net's errors are ahead of those of the word and the numbers
			for _, k := range []int{1, -1, math.MaxInt} {
				zero, errors := calls(c.n, w, k, k)
				for f := range errors {
					if !zero[f] || errors[f] != c.want {
						t.Errorf("net %d, word %q, number %d, function %d: %v %d, not %d", i, w, k, f, zero[f], errors[f], c.want)
					}
				}
			}
		}
	}
}

func TestErrorsOfWords(t *testing.T) { // P2.1, R2, R3
	n := all(ab)
	long := strings.Repeat("a", api.MaxSym+1)
	for _, c := range []struct {
		w    []string
		want api.Errno
	}{
		{word(strings.Repeat("a", api.MaxWord)), api.OK},
		{word(strings.Repeat("a", api.MaxWord+1)), api.ErrLarge},
		{word(strings.Repeat("c", api.MaxWord+1)), api.ErrLarge},
		{[]string{"", long}, api.ErrLarge},
		{[]string{"a", ""}, api.ErrArg},
		{[]string{"<"}, api.ErrArg},
		{[]string{"c", "a b"}, api.ErrArg},
	} {
		is, e := Accepts(n, c.w)
		begins, e2 := Begins(n, c.w)
		l, ends, e3 := Next(n, c.w)
		if e != c.want || e2 != c.want || e3 != c.want {
			t.Errorf("%q: %d %d %d, not %d", c.w, e, e2, e3, c.want)
		}
		if good := c.want == api.OK; is != good || begins != good || ends != good || (len(l) > 0) != good {
			t.Errorf("%q: %v %v %q %v", c.w, is, begins, l, ends)
		}
	}
}

// some are acceptors over `a`, `b`, each with its words of up to three symbols, in shortlex order.
func some() []struct {
	n     api.Net
	words string
	more  bool // there are longer ones
} {
	type one = struct {
		n     api.Net
		words string
		more  bool
	}
	return []one{
		{net(1, nil), "", false},
		{net(1, []int{0}), "-", false},
		{net(1, []int{0}, arc(0, "a", 0)), "- a aa aaa", true},
		{net(1, []int{0}, arc(0, "", 0)), "-", false},
		{net(1, nil, arc(0, "a", 0)), "", false},
		{net(2, []int{1}), "", false},
		{net(2, []int{1}, arc(1, "a", 1), arc(1, "a", 0)), "", false},
		{net(2, []int{1, 1}, arc(0, "b", 1), arc(0, "a", 1), arc(0, "b", 1)), "a b", false},
		{net(2, []int{0}, arc(0, "a", 1), arc(1, "a", 1)), "-", false},
		{net(3, []int{2}, arc(0, "", 1), arc(1, "", 2)), "-", false},
		{net(3, []int{2}, arc(0, "", 1), arc(1, "", 0), arc(1, "a", 2), arc(2, "", 2)), "a", false},
		{net(3, []int{0}, arc(0, "a", 1), arc(1, "", 2), arc(2, "", 0)), "- a aa aaa", true},
		{net(3, []int{1}, arc(0, "", 1), arc(0, "b", 2), arc(2, "a", 1)), "- ba", false},
		{net(3, []int{2}, arc(0, "a", 1), arc(1, "b", 2), arc(0, "a", 2)), "a ab", false},
		{net(3, []int{2}, arc(0, "a", 0), arc(0, "b", 0), arc(0, "a", 1), arc(1, "b", 2)), "ab aab bab", true},
		{net(4, []int{3, 1}, arc(0, "b", 1), arc(0, "b", 2), arc(2, "a", 3), arc(2, "b", 3)), "b ba bb", false},
		{net(4, []int{3}, arc(0, "a", 1), arc(1, "a", 2), arc(2, "a", 3), arc(3, "a", 1)), "aaa", true},
		{net(4, []int{1}, arc(0, "a", 1), arc(0, "b", 2), arc(2, "b", 2), arc(3, "a", 1), arc(3, "a", 3)), "a", false},
	}
}

func TestSome(t *testing.T) { // P2.2, P2.3
	for i, c := range some() {
		words := wordsOf(c.words)
		for _, w := range wordsOf("- a b aa ab ba bb aaa aab aba abb baa bab bba bbb") {
			want := slices.ContainsFunc(words, func(x []string) bool { return slices.Equal(x, w) })
			if is, e := Accepts(c.n, w); is != want || e != api.OK {
				t.Errorf("net %d: Accepts %q: %v %d", i, w, is, e)
			}
		}
		if is, e := Empty(c.n); is != (c.words == "" && !c.more) || e != api.OK {
			t.Errorf("net %d: Empty: %v %d", i, is, e)
		}
		if is, e := Finite(c.n); is != !c.more || e != api.OK {
			t.Errorf("net %d: Finite: %v %d", i, is, e)
		}
		for most := 1; most <= len(words); most++ {
			l, more, e := Words(c.n, most)
			if !same(l, words[:most]) || more != (c.more || most < len(words)) || e != api.OK {
				t.Errorf("net %d: %d Words: %q %v %d", i, most, l, more, e)
			}
		}
		if l, more, e := Words(c.n, api.MaxMost); !c.more && (!same(l, words) || more || e != api.OK) {
			t.Errorf("net %d: all Words: %q %v %d", i, l, more, e)
		}
		w, is, e := First(c.n)
		if is != (len(words) > 0) || is && !slices.Equal(w, words[0]) || !is && len(w) > 0 || e != api.OK {
			t.Errorf("net %d: First: %q %v %d", i, w, is, e)
		}
		for length := range 4 {
			want := 0
			for _, w := range words {
				if len(w) == length {
					want++
				}
			}
			if many, e := Count(c.n, length); many != want || e != api.OK {
				t.Errorf("net %d: Count of %d: %d %d, not %d", i, length, many, e, want)
			}
		}
	}
}

func TestExample(t *testing.T) { // the chapter's example
	n := net(1, []int{0}, arc(0, "a", 0))
	if l, more, e := Words(n, 2); !same(l, wordsOf("- a")) || !more || e != api.OK {
		t.Errorf("Words: %q %v %d", l, more, e)
	}
	if is, e := Finite(n); is || e != api.OK {
		t.Errorf("Finite: %v %d", is, e)
	}
}

func TestSymbolsThatAreNotThere(t *testing.T) { // P2.1, P2.4
	n := all(ab)
	for _, w := range [][]string{{"c"}, {"a", "c"}, {"c", "a"}, {"aa"}, {"ab", "a"}} {
		if is, e := Accepts(n, w); is || e != api.OK {
			t.Errorf("Accepts %q: %v %d", w, is, e)
		}
		if is, e := Begins(n, w); is || e != api.OK {
			t.Errorf("Begins %q: %v %d", w, is, e)
		}
		if l, is, e := Next(n, w); len(l) != 0 || is || e != api.OK {
			t.Errorf("Next %q: %q %v %d", w, l, is, e)
		}
	}
}

func TestSymbolsOfSeveralLetters(t *testing.T) { // P2.2, P2.3, P2.4
	sigma := []string{"+Pl", "a", "aa", "b"}
	n := api.Net{Sigma: sigma, States: 2, Ends: []api.End{{State: 1}}, Arcs: []api.Arc{arc(0, "aa", 1), arc(0, "a", 0), arc(0, "+Pl", 1)}}
	for _, w := range [][]string{{"aa"}, {"a", "aa"}, {"a", "a", "+Pl"}} {
		if is, e := Accepts(n, w); !is || e != api.OK {
			t.Errorf("Accepts %q: %v %d", w, is, e)
		}
	}
	if is, e := Accepts(n, []string{"a", "a"}); is || e != api.OK {
		t.Errorf("Accepts `a`, `a`: %v %d", is, e)
	}
	want := [][]string{{"+Pl"}, {"aa"}, {"a", "+Pl"}, {"a", "aa"}, {"a", "a", "+Pl"}}
	if l, more, e := Words(n, 5); !same(l, want) || !more || e != api.OK {
		t.Errorf("Words: %q %v %d", l, more, e)
	}
	if l, is, e := Next(n, []string{"a"}); !slices.Equal(l, []string{"+Pl", "a", "aa"}) || is || e != api.OK {
		t.Errorf("Next: %q %v %d", l, is, e)
	}
}

// accepted tells by the plain meaning whether a word is accepted: it goes through the ways.
func accepted(n api.Net, w []string) bool {
	type place struct{ state, at int }
	seen := map[place]bool{}
	var from func(p place) bool
	from = func(p place) bool {
		if seen[p] {
			return false
		}
		seen[p] = true
		if p.at == len(w) && slices.Contains(n.Ends, api.End{State: p.state}) {
			return true
		}
		for _, a := range n.Arcs {
			if a.From == p.state && a.In == "" && from(place{a.To, p.at}) {
				return true
			}
			if a.From == p.state && p.at < len(w) && a.In == w[p.at] && from(place{a.To, p.at + 1}) {
				return true
			}
		}
		return false
	}
	return from(place{})
}

// shortlex returns all words over `a`, `b` of at most length symbols, in shortlex order.
func shortlex(length int) [][]string {
	l := [][]string{nil}
	for i := 0; i < len(l) && len(l[i]) < length; i++ {
		l = append(l, append(slices.Clone(l[i]), "a"), append(slices.Clone(l[i]), "b"))
	}
	return l
}

// made returns nets of up to 4 states, all sorts of them, the same ones in each run.
func made(many int) []api.Net {
	seed := uint32(1)
	roll := func(n int) int {
		seed = seed*1664525 + 1013904223
		return int(seed>>16) % n
	}
	var l []api.Net
	for range many {
		n := net(1+roll(4), nil)
		for range roll(8) {
			n.Arcs = append(n.Arcs, arc(roll(n.States), []string{"", "a", "b"}[roll(3)], roll(n.States)))
		}
		for range roll(3) {
			n.Ends = append(n.Ends, api.End{State: roll(n.States)})
		}
		l = append(l, n)
	}
	return l
}

// TestByWays compares all functions with the plain meaning of many small nets. A net of 4 states that has a word goes on to one within 3 symbols, and has infinitely many just if it has one of 4 to 7.
func TestByWays(t *testing.T) { // P2.2 to P2.5
	const length = 7
	words := shortlex(length)
	for i, n := range made(1500) {
		var is [][]string
		begins := map[string]bool{}
		counts := [length + 1]int{}
		for _, w := range words {
			if accepted(n, w) {
				is = append(is, w)
				counts[len(w)]++
				for k := range len(w) + 1 {
					begins[strings.Join(w[:k], "")] = true
				}
			}
		}
		checkWholes(t, i, n, is, counts)
		for _, w := range shortlex(length - 4) {
			checkWord(t, i, n, w, begins)
		}
		checkReverse(t, i, n)
	}
}

// checkWholes compares what is asked of a whole net, by its words of at most 7 symbols.
func checkWholes(t *testing.T, i int, n api.Net, is [][]string, counts [8]int) {
	t.Helper()
	infinite := counts[4]+counts[5]+counts[6]+counts[7] > 0
	if got, e := Empty(n); got != (len(is) == 0) || e != api.OK {
		t.Fatalf("net %d %v: Empty: %v %d", i, n, got, e)
	}
	if got, e := Finite(n); got == infinite || e != api.OK {
		t.Fatalf("net %d %v: Finite: %v %d", i, n, got, e)
	}
	for length, want := range counts {
		if many, e := Count(n, length); many != want || e != api.OK {
			t.Fatalf("net %d %v: Count of %d: %d %d, not %d", i, n, length, many, e, want)
		}
	}
	for _, most := range []int{1, 2, 5, len(is) - 1, len(is)} {
		if most < 1 || most > len(is) {
			continue
		}
		l, more, e := Words(n, min(most, api.MaxMost))
		if !same(l, is[:min(most, api.MaxMost)]) || more != (infinite || most < len(is)) || e != api.OK {
			t.Fatalf("net %d %v: %d Words: %q %v %d", i, n, most, l, more, e)
		}
	}
	w, has, e := First(n)
	if has != (len(is) > 0) || has && !slices.Equal(w, is[0]) || e != api.OK {
		t.Fatalf("net %d %v: First: %q %v %d", i, n, w, has, e)
	}
}

// checkWord compares what is asked about a word, by the beginnings of the words of at most 7 symbols.
func checkWord(t *testing.T, i int, n api.Net, w []string, begins map[string]bool) {
	t.Helper()
	raw := strings.Join(w, "")
	want := accepted(n, w)
	if is, e := Accepts(n, w); is != want || e != api.OK {
		t.Fatalf("net %d %v: Accepts %q: %v %d", i, n, w, is, e)
	}
	if is, e := Begins(n, w); is != begins[raw] || e != api.OK {
		t.Fatalf("net %d %v: Begins %q: %v %d", i, n, w, is, e)
	}
	var follow []string
	for _, s := range ab {
		if begins[raw+s] {
			follow = append(follow, s)
		}
	}
	if l, is, e := Next(n, w); !slices.Equal(l, follow) || is != want || e != api.OK {
		t.Fatalf("net %d %v: Next %q: %q %v %d", i, n, w, l, is, e)
	}
}

func checkReverse(t *testing.T, i int, n api.Net) {
	t.Helper()
	r, e := Reverse(n)
	if e != api.OK || Validate(r) != api.OK || !slices.Equal(r.Sigma, n.Sigma) {
		t.Fatalf("net %d %v: Reverse: %v %d", i, n, r, e)
	}
	if r.States > n.States+1 || len(r.Arcs) > len(n.Arcs)+len(n.Ends) {
		t.Fatalf("net %d %v: Reverse is large: %v", i, n, r)
	}
	for _, w := range shortlex(5) {
		back := slices.Clone(w)
		slices.Reverse(back)
		if is, e := Accepts(r, back); is != accepted(n, w) || e != api.OK {
			t.Fatalf("net %d %v: Reverse accepts %q: %v %d", i, n, back, is, e)
		}
	}
}

func TestWordsMost(t *testing.T) { // P2.3, R1, R3
	n := all(ab)
	for _, most := range []int{math.MinInt, -1, 0, api.MaxMost + 1, math.MaxInt} {
		if l, more, e := Words(n, most); len(l) != 0 || more || e != api.ErrArg {
			t.Errorf("%d Words: %q %v %d", most, l, more, e)
		}
		// ErrArg is ahead of ErrLarge.
		if l, more, e := Words(line(api.MaxWord+1), most); len(l) != 0 || more || e != api.ErrArg {
			t.Errorf("%d Words of a long one: %q %v %d", most, l, more, e)
		}
	}
	l, more, e := Words(n, api.MaxMost)
	if !same(l, shortlex(7)[:api.MaxMost]) || !more || e != api.OK {
		t.Errorf("MaxMost Words: %q %v %d", l, more, e)
	}
	few, _ := Of(ab, l)
	if l, more, e := Words(few, api.MaxMost); len(l) != api.MaxMost || more || e != api.OK {
		t.Errorf("just MaxMost Words: %d %v %d", len(l), more, e)
	}
}

func TestWordsThatAreLong(t *testing.T) { // P2.3, R3
	a60 := word(strings.Repeat("a", api.MaxWord))
	if l, more, e := Words(line(api.MaxWord), 2); !same(l, [][]string{a60}) || more || e != api.OK {
		t.Errorf("a word of MaxWord: %q %v %d", l, more, e)
	}
	if w, is, e := First(line(api.MaxWord)); !slices.Equal(w, a60) || !is || e != api.OK {
		t.Errorf("a first word of MaxWord: %q %v %d", w, is, e)
	}
	for _, length := range []int{api.MaxWord + 1, api.MaxWord + 2, api.MaxStates - 1} {
		n := line(length)
		if l, more, e := Words(n, 1); len(l) != 0 || more || e != api.ErrLarge {
			t.Errorf("a word of %d: %q %v %d", length, l, more, e)
		}
		if w, is, e := First(n); len(w) != 0 || is || e != api.ErrLarge {
			t.Errorf("a first word of %d: %q %v %d", length, w, is, e)
		}
		if is, e := Finite(n); !is || e != api.OK {
			t.Errorf("Finite with a word of %d: %v %d", length, is, e)
		}
		if is, e := Empty(n); is || e != api.OK {
			t.Errorf("Empty with a word of %d: %v %d", length, is, e)
		}
		n.Ends = append(n.Ends, api.End{State: 1}, api.End{State: 2})
		if l, more, e := Words(n, 2); !same(l, wordsOf("a aa")) || !more || e != api.OK {
			t.Errorf("two ahead of a word of %d: %q %v %d", length, l, more, e)
		}
		if l, more, e := Words(n, 3); len(l) != 0 || more || e != api.ErrLarge {
			t.Errorf("three, the last one of %d: %q %v %d", length, l, more, e)
		}
		if w, is, e := First(n); !slices.Equal(w, word("a")) || !is || e != api.OK {
			t.Errorf("First ahead of a word of %d: %q %v %d", length, w, is, e)
		}
	}
	// One word of each length: there are 61 that are not too long.
	n := net(1, []int{0}, arc(0, "a", 0))
	if l, more, e := Words(n, api.MaxWord+1); len(l) != api.MaxWord+1 || !more || e != api.OK {
		t.Errorf("all lengths: %d %v %d", len(l), more, e)
	}
	if l, more, e := Words(n, api.MaxWord+2); len(l) != 0 || more || e != api.ErrLarge {
		t.Errorf("one length more: %q %v %d", l, more, e)
	}
	// What is long behind a state that is not reached, or ahead of no end, is no word.
	n = net(3, []int{0, 2}, arc(0, "a", 1), arc(1, "a", 1), arc(2, "a", 2))
	if l, more, e := Words(n, 2); !same(l, wordsOf("-")) || more || e != api.OK {
		t.Errorf("ways that are no words: %q %v %d", l, more, e)
	}
}

func TestCountLength(t *testing.T) { // P2.3, R1, R3
	for _, length := range []int{math.MinInt, -1, api.MaxWord + 1, math.MaxInt} {
		if many, e := Count(all(ab), length); many != 0 || e != api.ErrArg {
			t.Errorf("Count of %d: %d %d", length, many, e)
		}
		// ErrArg is ahead of ErrLarge.
		if many, e := Count(line(api.MaxSmall), length); many != 0 || e != api.ErrArg {
			t.Errorf("Count of %d of many states: %d %d", length, many, e)
		}
	}
	for _, length := range []int{0, 1, api.MaxWord} {
		if many, e := Count(all([]string{"a"}), length); many != 1 || e != api.OK {
			t.Errorf("Count of %d: %d %d", length, many, e)
		}
	}
}

func TestCountOfMany(t *testing.T) { // P2.3
	// Several ways to one word: it is counted once.
	twice := net(3, []int{1, 2}, arc(0, "a", 1), arc(0, "a", 2), arc(0, "a", 1), arc(1, "", 2), arc(1, "b", 2), arc(2, "b", 2))
	for length, want := range []int{0, 1, 1, 1} {
		if many, e := Count(twice, length); many != want || e != api.OK {
			t.Errorf("Count of %d, by several ways: %d %d", length, many, e)
		}
	}
	for length, want := range map[int]int{10: 1 << 10, 29: 1 << 29, 30: api.MaxCount, 31: api.MaxCount, 60: api.MaxCount} {
		if many, e := Count(all(ab), length); many != want || e != api.OK {
			t.Errorf("Count of %d: %d %d, not %d", length, many, e, want)
		}
	}
	for length, want := range map[int]int{8: 100000000, 9: api.MaxCount, 10: api.MaxCount} { // 10^9 is just MaxCount
		if many, e := Count(all(ones(10)), length); many != want || e != api.OK {
			t.Errorf("Count of %d, of ten symbols: %d %d, not %d", length, many, e, want)
		}
	}
	if many, e := Count(all(ones(api.MaxSigma)), api.MaxWord); many != api.MaxCount || e != api.OK {
		t.Errorf("Count of the most: %d %d", many, e)
	}
	// Words that lead to several subsets: each has fewer than MaxCount of them, or all have more.
	n := net(3, []int{1, 2}, arc(0, "a", 1), arc(0, "b", 2), arc(1, "a", 1), arc(1, "b", 1), arc(2, "a", 2), arc(2, "b", 2))
	for length, want := range map[int]int{29: 1 << 29, 30: api.MaxCount, 60: api.MaxCount} {
		if many, e := Count(n, length); many != want || e != api.OK {
			t.Errorf("Count of %d, of two subsets: %d %d, not %d", length, many, e, want)
		}
	}
	// Many ways, which would be more than MaxCount, that lead to no end.
	n = net(2, []int{1}, arc(0, "a", 0), arc(0, "b", 0))
	if many, e := Count(n, api.MaxWord); many != 0 || e != api.OK {
		t.Errorf("Count of no words: %d %d", many, e)
	}
}

func TestCountOfStates(t *testing.T) { // P2.3
	if many, e := Count(line(api.MaxSmall-1), 1); many != 0 || e != api.OK {
		t.Errorf("MaxSmall states: %d %d", many, e)
	}
	if many, e := Count(net(api.MaxSmall, []int{0}), 0); many != 1 || e != api.OK {
		t.Errorf("MaxSmall states, the empty word: %d %d", many, e)
	}
	if many, e := Count(net(api.MaxSmall+1, []int{0}), 0); many != 0 || e != api.ErrLarge {
		t.Errorf("a state more: %d %d", many, e)
	}
}

// heaps returns an acceptor that has one subset, and 2^k ones for each k: behind a symbol of its own, a state that stays, and k states, each of which is there just if the symbol so many places ahead is `a`.
func heaps(ks ...int) api.Net {
	n := api.Net{Sigma: ones(len(ks)), States: 1}
	n.Sigma = append(n.Sigma, "a", "b")
	for i, k := range ks {
		stay := n.States
		n.Arcs = append(n.Arcs, arc(0, n.Sigma[i], stay), arc(stay, "a", stay), arc(stay, "b", stay))
		for q := stay; q < stay+k; q++ {
			n.Arcs = append(n.Arcs, arc(q, "a", q+1))
			if q > stay {
				n.Arcs = append(n.Arcs, arc(q, "b", q+1))
			}
		}
		n.States += k + 1
	}
	return n
}

func TestCountOfSubsets(t *testing.T) { // P2.3
	just := []int{11, 9, 8, 7, 5, 4, 2, 1, 0} // with 0 itself: 3000
	sum := 1
	for _, k := range just {
		sum += 1 << k
	}
	if sum != api.MaxSubsets {
		t.Fatalf("%d subsets", sum)
	}
	// There are no ends: subsets that lead to none are subsets too; the empty set is none.
	for _, length := range []int{0, 5, api.MaxWord} {
		if many, e := Count(heaps(just...), length); many != 0 || e != api.OK {
			t.Errorf("MaxSubsets subsets, length %d: %d %d", length, many, e)
		}
		if many, e := Count(heaps(append(just, 0)...), length); many != 0 || e != api.ErrLarge {
			t.Errorf("a subset more, length %d: %d %d", length, many, e)
		}
	}
	n := heaps(11)
	n.Ends = []api.End{{State: 12}} // the 11th from the end is an `a`
	for length, want := range map[int]int{11: 0, 12: 1 << 10, 20: 1 << 18} {
		if many, e := Count(n, length); many != want || e != api.OK {
			t.Errorf("Count of %d of many subsets: %d %d, not %d", length, many, e, want)
		}
	}
	if many, e := Count(heaps(50), 0); many != 0 || e != api.ErrLarge {
		t.Errorf("very many subsets: %d %d", many, e)
	}
}

func TestBeginsAndNext(t *testing.T) { // P2.4
	// `ab`, `ba`, `b`; `aa` leads to no end, `bb` round and round.
	n := net(7, []int{2, 3, 4}, arc(0, "a", 1), arc(1, "b", 2), arc(1, "a", 5), arc(0, "b", 3), arc(3, "a", 4), arc(3, "b", 6), arc(6, "b", 6))
	for _, c := range []struct {
		w      string
		begins bool
		next   string
		is     bool
	}{
		{"", true, "ab", false},
		{"a", true, "b", false},
		{"ab", true, "", true},
		{"b", true, "a", true},
		{"ba", true, "", true},
		{"aa", false, "", false},
		{"bb", false, "", false},
		{"abb", false, "", false},
	} {
		if is, e := Begins(n, word(c.w)); is != c.begins || e != api.OK {
			t.Errorf("Begins %q: %v %d", c.w, is, e)
		}
		if l, is, e := Next(n, word(c.w)); !slices.Equal(l, word(c.next)) || is != c.is || e != api.OK {
			t.Errorf("Next %q: %q %v %d", c.w, l, is, e)
		}
	}
	// Empty arcs ahead of a symbol, behind it, and at the end.
	n = net(5, []int{4}, arc(0, "", 1), arc(1, "b", 2), arc(2, "", 3), arc(3, "a", 3), arc(3, "", 4), arc(4, "", 0))
	if l, is, e := Next(n, nil); !slices.Equal(l, word("b")) || is || e != api.OK {
		t.Errorf("Next of the empty word: %q %v %d", l, is, e)
	}
	if l, is, e := Next(n, word("b")); !slices.Equal(l, ab) || !is || e != api.OK {
		t.Errorf("Next of `b`: %q %v %d", l, is, e)
	}
	// What follows may be longer than a word.
	if is, e := Begins(line(api.MaxWord+5), word("a")); !is || e != api.OK {
		t.Errorf("Begins of a long word: %v %d", is, e)
	}
	if l, is, e := Next(line(api.MaxWord+5), word(strings.Repeat("a", api.MaxWord))); !slices.Equal(l, word("a")) || is || e != api.OK {
		t.Errorf("Next of a long word: %q %v %d", l, is, e)
	}
}

func TestOf(t *testing.T) { // P2.5
	abc := []string{"a", "ab", "b"}
	for _, c := range []struct {
		sigma []string
		l     [][]string
	}{
		{nil, nil},
		{nil, [][]string{nil}},
		{abc, nil},
		{abc, [][]string{nil}},
		{abc, [][]string{{"a"}}},
		{abc, [][]string{{"b", "a"}, {"a", "b"}, nil, {"ab"}, {"b"}, {"a", "b"}, {"b", "a", "a"}}},
		{abc, [][]string{slices.Repeat([]string{"ab"}, api.MaxWord)}},
		{ones(api.MaxSigma), [][]string{ones(api.MaxSigma)}},
	} {
		n, e := Of(c.sigma, c.l)
		if e != api.OK || Validate(n) != api.OK || !slices.Equal(n.Sigma, c.sigma) {
			t.Errorf("Of %q: %v %d", c.l, n, e)
			continue
		}
		want, _ := syms.Sorted(c.l)
		if l, more, e := Words(n, api.MaxMost); !same(l, want) || more || e != api.OK {
			t.Errorf("Words of Of %q: %q %v %d", c.l, l, more, e)
		}
		for _, w := range want {
			if is, e := Accepts(n, w); !is || e != api.OK {
				t.Errorf("Of %q: Accepts %q: %v %d", c.l, w, is, e)
			}
		}
	}
	if n, e := Of(ab, slices.Repeat(wordsOf("ab"), api.MaxRows)); e != api.OK || n.States > api.MaxStates {
		t.Errorf("MaxRows words: %d states, %d", n.States, e)
	}
}

func TestOfErrors(t *testing.T) { // P2.5, R1, R3
	long := word(strings.Repeat("a", api.MaxWord+1))
	for i, c := range []struct {
		sigma []string
		l     [][]string
		want  api.Errno
	}{
		{ones(api.MaxSigma + 1), nil, api.ErrLarge},
		{[]string{"b", "a"}, nil, api.ErrArg},
		{[]string{""}, slices.Repeat(wordsOf("a"), api.MaxRows+1), api.ErrArg},
		{ab, slices.Repeat(wordsOf("a"), api.MaxRows+1), api.ErrLarge}, // equal ones are counted, too
		{ab, slices.Repeat([][]string{{""}}, api.MaxRows+1), api.ErrLarge},
		{ab, [][]string{{"a"}, {""}}, api.ErrArg},
		{ab, [][]string{{"a"}, long}, api.ErrLarge},
		{ab, [][]string{{"<"}, long}, api.ErrArg}, // one by one
		{ab, [][]string{long, {"<"}}, api.ErrLarge},
		{ab, [][]string{{"c"}, {""}}, api.ErrArg}, // all words are words ahead of symbols that are not there
		{ab, [][]string{{"c"}, long}, api.ErrLarge},
		{ab, [][]string{{"a"}, {"a", "c"}}, api.ErrNone},
		{ab, [][]string{{"ab"}}, api.ErrNone},
		{nil, [][]string{{"a"}}, api.ErrNone},
	} {
		if n, e := Of(c.sigma, c.l); e != c.want || !sameNet(n, api.Net{}) {
			t.Errorf("list %d: %v %d, not %d", i, n, e, c.want)
		}
	}
}

func TestOfBeginnings(t *testing.T) { // P2.5
	sigma := ones(api.MaxSigma)
	long := func(first, then string, length int) []string {
		return append([]string{first}, slices.Repeat([]string{then}, length-1)...)
	}
	var l [][]string
	for _, s := range sigma { // 40 * 60 beginnings
		l = append(l, long(s, sigma[0], api.MaxWord))
	}
	for _, s := range sigma[:10] { // 10 * 59
		l = append(l, long(s, sigma[1], api.MaxWord))
	}
	l = append(l, long(sigma[10], sigma[1], 10)) // 9, and the empty one: 3000
	n, e := Of(sigma, l)
	if e != api.OK || Validate(n) != api.OK {
		t.Fatalf("MaxStates beginnings: %d states, %d", n.States, e)
	}
	want, _ := syms.Sorted(l)
	if got, more, e := Words(n, api.MaxMost); !same(got, want) || more || e != api.OK {
		t.Errorf("Words of MaxStates beginnings: %q %v %d", got, more, e)
	}
	if n, e := Of(sigma, append(l, l...)); e != api.OK || n.States > api.MaxStates {
		t.Errorf("each twice: %d states, %d", n.States, e)
	}
	l[len(l)-1] = long(sigma[10], sigma[1], 11)
	if n, e := Of(sigma, l); e != api.ErrLarge || !sameNet(n, api.Net{}) {
		t.Errorf("a beginning more: %d states, %d", n.States, e)
	}
	l[0] = []string{"none"}
	if _, e := Of(sigma, l); e != api.ErrNone { // ahead of the beginnings
		t.Errorf("a symbol that is not there, and a beginning more: %d", e)
	}
}

func TestReverse(t *testing.T) { // P2.5
	for i, c := range some() {
		checkReverse(t, i, c.n)
	}
	l := wordsOf("- a ab aab bba babb")
	n, _ := Of(ab, l)
	r, e := Reverse(n)
	if got, more, e2 := Words(r, api.MaxMost); !same(got, wordsOf("- a ba abb baa bbab")) || more || e != api.OK || e2 != api.OK {
		t.Errorf("Words of Reverse: %q %v %d %d", got, more, e, e2)
	}
}

func TestReverseThatIsLarge(t *testing.T) { // P2.5, R3
	n := net(api.MaxStates-1, []int{api.MaxStates - 2}, arc(0, "a", api.MaxStates-2))
	if r, e := Reverse(n); e != api.OK || Validate(r) != api.OK {
		t.Errorf("a state less than MaxStates: %d %d", e, Validate(r))
	}
	n.States = api.MaxStates
	if r, e := Reverse(n); e != api.ErrLarge || !sameNet(r, api.Net{}) {
		t.Errorf("MaxStates: %d", e)
	}
	n = net(2, nil)
	n.Arcs = slices.Repeat([]api.Arc{arc(0, "a", 1)}, api.MaxArcs-10)
	n.Ends = slices.Repeat([]api.End{{State: 1}}, 10)
	r, e := Reverse(n)
	if e != api.OK || Validate(r) != api.OK {
		t.Errorf("MaxArcs arcs and ends: %d %d", e, Validate(r))
	}
	if l, more, e := Words(r, 2); !same(l, wordsOf("a")) || more || e != api.OK {
		t.Errorf("Words of MaxArcs arcs and ends: %q %v %d", l, more, e)
	}
	n.Ends = append(n.Ends, n.Ends[0])
	if r, e := Reverse(n); e != api.ErrLarge || !sameNet(r, api.Net{}) {
		t.Errorf("an end more: %d", e)
	}
	n.Arcs, n.Ends = slices.Repeat([]api.Arc{arc(0, "a", 1)}, api.MaxArcs), nil
	if r, e := Reverse(n); e != api.OK || Validate(r) != api.OK {
		t.Errorf("MaxArcs arcs, no ends: %d %d", e, Validate(r))
	}
}

func TestCopy(t *testing.T) { // P2.5, R5, R6
	nets := []api.Net{{}, {States: math.MinInt, Sigma: []string{"", "b", "a", "<"}}, all(ab)}
	nets = append(nets, api.Net{Arcs: []api.Arc{{From: -1, In: "é", Out: "", To: math.MaxInt, Cost: -7}}, Ends: []api.End{{State: -3, Cost: 9}, {}}})
	nets = append(nets, net(1, nil), api.Net{Sigma: ones(92), States: 1, Ends: make([]api.End, api.MaxArcs+1)})
	for i, n := range nets {
		c := Copy(n)
		if !sameNet(c, n) {
			t.Errorf("net %d: %v", i, c)
		}
		again := Copy(n)
		for k := range c.Sigma {
			c.Sigma[k] += "?"
		}
		for k := range c.Arcs {
			c.Arcs[k].From++
		}
		for k := range c.Ends {
			c.Ends[k].Cost++
		}
		if !sameNet(n, again) {
			t.Errorf("net %d has changed with its copy: %v", i, n)
		}
	}
}

// spoil changes all that a net has.
func spoil(n api.Net) {
	for i := range n.Sigma {
		n.Sigma[i] = "?"
	}
	for i := range n.Arcs {
		n.Arcs[i] = api.Arc{From: -1}
	}
	for i := range n.Ends {
		n.Ends[i] = api.End{State: -1}
	}
}

// TestMemory changes results, and looks whether arguments or other results change too.
func TestMemory(t *testing.T) { // R5, R11
	sigma, l := []string{"a", "b"}, wordsOf("a ab b")
	n, _ := Of(sigma, l)
	before := Copy(n)
	calls(n, word("a"), 2, 1)
	if !sameNet(n, before) {
		t.Errorf("the net has become %v", n)
	}
	r, _ := Reverse(n)
	spoil(r)
	if !sameNet(n, before) {
		t.Errorf("with its reverse the net has become %v", n)
	}
	words, _, _ := Words(n, 2)
	words[0][0] = "?"
	_ = append(words, nil)
	if !same(words[1:], wordsOf("b")) {
		t.Errorf("words share memory: %q", words)
	}
	next, _, _ := Next(n, nil)
	next[0] = "?"
	first, _, _ := First(n)
	first[0] = "?"
	if !sameNet(n, before) {
		t.Errorf("with what it gave out the net has become %v", n)
	}
	if words, _, _ := Words(n, 2); !same(words, wordsOf("a b")) {
		t.Errorf("the same call: %q", words)
	}
	spoil(n)
	if !slices.Equal(sigma, ab) || !same(l, wordsOf("a ab b")) {
		t.Errorf("with the net the words have become %q %q", sigma, l)
	}
}

// TestEqualCalls has free results: equal calls return equal ones, and nil is as good as empty.
func TestEqualCalls(t *testing.T) { // R4, R11
	l := wordsOf("ab a b - ba bb")
	for range 10 {
		a, _ := Of(ab, l)
		b, _ := Of(slices.Clone(ab), append(wordsOf("ab a b"), []string{}, word("ba"), word("bb")))
		if !sameNet(a, b) {
			t.Fatalf("Of: %v and %v", a, b)
		}
		x, _ := Reverse(a)
		y, _ := Reverse(b)
		if !sameNet(x, y) {
			t.Fatalf("Reverse: %v and %v", x, y)
		}
	}
	n := api.Net{Sigma: []string{}, States: 1, Arcs: []api.Arc{}, Ends: []api.End{}}
	zero, errors := calls(n, []string{}, 1, 0)
	zero2, errors2 := calls(api.Net{States: 1}, nil, 1, 0)
	if !slices.Equal(zero, zero2) || !slices.Equal(errors, errors2) {
		t.Errorf("nil and empty: %v %d, %v %d", zero, errors, zero2, errors2)
	}
}

// large are acceptors of the largest size, of all sorts.
func large() []api.Net {
	const states = api.MaxStates
	dense := func(symbols, step int) api.Net { // each state leads to 20 others
		n := api.Net{Sigma: ones(symbols), States: states}
		for i := range api.MaxArcs {
			s := n.Sigma[i*7%symbols]
			n.Arcs = append(n.Arcs, arc(i%states, s, (i%states*step+i/states*97+1)%states))
		}
		for q := range states {
			n.Ends = append(n.Ends, api.End{State: q})
		}
		return n
	}
	layers := net(states, []int{states - 1}) // finite: each state leads to the 20 behind it, and so words are long
	empties := net(states, []int{states - 1})
	for i := range api.MaxArcs {
		q := i % states
		layers.Arcs = append(layers.Arcs, arc(min(q, states-2), ab[i%2], min(q+1+i/states, states-1)))
		empties.Arcs = append(empties.Arcs, arc(q, "", (q*31+i/states)%states))
	}
	small := net(api.MaxSmall, []int{0, 299})
	for i := range api.MaxArcs {
		small.Arcs = append(small.Arcs, arc(i%300, []string{"", "a", "b"}[i%7%3], (i%300*7+i/300*i/300+1)%300))
	}
	return []api.Net{dense(1, 1), dense(2, 31), dense(40, 17), layers, empties, line(states - 1), small}
}

// TestAnyArguments calls all functions with all sorts of arguments: they end and do not panic, and what they return with an error is zero.
func TestAnyArguments(t *testing.T) { // P1, R3, R6
	nets := large()
	for _, c := range badNets() {
		nets = append(nets, c.n)
	}
	for _, c := range some() {
		nets = append(nets, c.n)
	}
	words := [][]string{nil, word("abba"), word(strings.Repeat("a", api.MaxWord)), {"", "\xff"}, nil}
	for _, n := range nets {
		for i, k := range []int{math.MaxInt, api.MaxMost, 60, 0, math.MinInt} {
			zero, errors := calls(n, words[i], k, k)
			for f := range errors {
				if errors[f] != api.OK && !zero[f] {
					t.Errorf("function %d, word %q, number %d: a result with error %d", f, words[i], k, errors[f])
				}
			}
		}
	}
	for _, sigma := range [][]string{nil, ab, {"\xff"}, ones(92), slices.Repeat([]string{"a"}, 100000)} {
		for _, l := range [][][]string{nil, {nil}, {ones(60)}, {{"\xff"}}, slices.Repeat([][]string{ones(60)}, 1000)} {
			if n, e := Of(sigma, l); e != api.OK && !sameNet(n, api.Net{}) {
				t.Errorf("Of: %v with error %d", n, e)
			}
		}
	}
}
