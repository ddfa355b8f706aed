package det

import (
	"maps"
	"slices"
	"strings"
	"testing"

	"ablaut/api"
	"ablaut/auto"
)

var ab = []string{"a", "b"}

// arc returns an arc of an acceptor.
func arc(from int, s string, to int) api.Arc {
	return api.Arc{From: from, In: s, Out: s, To: to}
}

// net returns an acceptor over `a`, `b`.
func net(states int, ends []int, arcs ...api.Arc) api.Net {
	n := api.Net{Sigma: ab, States: states, Arcs: arcs}
	for _, q := range ends {
		n.Ends = append(n.Ends, api.End{State: q})
	}
	return n
}

// over returns the acceptor with another alphabet.
func over(sigma []string, n api.Net) api.Net {
	n.Sigma = sigma
	return n
}

// word returns the word of symbols of one byte.
func word(s string) []string {
	if s == "" {
		return nil
	}
	return strings.Split(s, "")
}

// of returns an acceptor over `a`, `b`, `c` of the words of a list that blanks divide; `-` is the empty word.
func of(s string) api.Net {
	n := api.Net{Sigma: word("abc"), States: 1}
	for _, f := range strings.Fields(s) {
		at := 0
		for _, x := range word(strings.Trim(f, "-")) {
			n.Arcs = append(n.Arcs, arc(at, x, n.States))
			at = n.States
			n.States++
		}
		n.Ends = append(n.Ends, api.End{State: at})
	}
	return n
}

// written returns the words of a finite acceptor as of takes them.
func written(t *testing.T, n api.Net) string {
	t.Helper()
	l, more, e := auto.Words(n, api.MaxMost)
	if more || e != api.OK {
		t.Fatalf("the words of %v: %v %d", n, more, e)
	}
	var f []string
	for _, w := range l {
		if len(w) == 0 {
			f = append(f, "-")
		} else {
			f = append(f, strings.Join(w, ""))
		}
	}
	return strings.Join(f, " ")
}

// all returns an acceptor of all words over an alphabet.
func all(sigma []string) api.Net {
	n := api.Net{Sigma: sigma, States: 1, Ends: []api.End{{}}}
	for _, s := range sigma {
		n.Arcs = append(n.Arcs, arc(0, s, 0))
	}
	return n
}

func sameNet(a, b api.Net) bool {
	return a.States == b.States && slices.Equal(a.Sigma, b.Sigma) && slices.Equal(a.Arcs, b.Arcs) && slices.Equal(a.Ends, b.Ends)
}

// good returns the result of a call that is to have no error.
func good[T any](t *testing.T) func(x T, e api.Errno) T {
	t.Helper()
	return func(x T, e api.Errno) T {
		t.Helper()
		if e != api.OK {
			t.Fatalf("error %d", e)
		}
		return x
	}
}

func TestExample(t *testing.T) { // the chapter's example
	n, e := auto.Of(ab, [][]string{word("a"), word("ab")})
	want := net(3, []int{1, 2}, arc(0, "a", 1), arc(1, "b", 2))
	if m, e2 := Min(n); !sameNet(m, want) || e != api.OK || e2 != api.OK {
		t.Errorf("Min: %v %d %d", m, e, e2)
	}
}

func TestMin(t *testing.T) { // P3.1
	none := net(1, nil)
	long := []string{"+Pl", "a", "aa"}
	for i, c := range []struct{ n, want api.Net }{
		// No word: one state, no arcs, no ends.
		{none, none},
		{net(3, nil, arc(0, "a", 1), arc(1, "b", 0), arc(0, "", 2)), none},
		{net(3, []int{2}, arc(0, "a", 1), arc(1, "b", 1), arc(2, "a", 2)), none},
		{api.Net{States: 4, Ends: []api.End{{State: 3}}}, api.Net{States: 1}},
		// The empty word alone, also over no symbols.
		{net(3, []int{2}, arc(0, "", 1), arc(1, "", 2), arc(2, "", 0), arc(2, "a", 1), arc(1, "b", 1)), all(ab)},
		{net(3, []int{2}, arc(0, "", 1), arc(1, "", 2), arc(2, "", 0)), net(1, []int{0})},
		{api.Net{States: 1, Ends: []api.End{{}, {}}}, api.Net{States: 1, Ends: []api.End{{}}}},
		// Arcs and ends in any order, and twice; a state that is not reached, one that leads to no end.
		{net(6, []int{3, 2, 3}, arc(1, "b", 3), arc(0, "a", 1), arc(0, "a", 1), arc(0, "b", 2), arc(4, "a", 3), arc(2, "b", 5), arc(5, "a", 5)),
			net(3, []int{2}, arc(0, "a", 1), arc(0, "b", 2), arc(1, "b", 2))},
		// The states are numbered breadth first, by the symbols in ascending order.
		{net(5, []int{4}, arc(0, "b", 1), arc(0, "a", 2), arc(1, "b", 3), arc(2, "b", 1), arc(2, "a", 3), arc(3, "b", 4)),
			net(5, []int{4}, arc(0, "a", 1), arc(0, "b", 2), arc(1, "a", 3), arc(1, "b", 2), arc(2, "b", 3), arc(3, "b", 4))},
		// Symbols of several letters, and of no word.
		{over(long, net(3, []int{1, 2}, arc(0, "aa", 1), arc(0, "+Pl", 2), arc(2, "aa", 2))),
			over(long, net(3, []int{1, 2}, arc(0, "+Pl", 1), arc(0, "aa", 2), arc(1, "aa", 1)))},
		// Not by ways, but by words: all of `aa` behind any others.
		{net(3, []int{2}, arc(0, "a", 0), arc(0, "b", 0), arc(0, "a", 1), arc(1, "a", 2)),
			net(3, []int{2}, arc(0, "a", 1), arc(0, "b", 0), arc(1, "a", 2), arc(1, "b", 0), arc(2, "a", 2), arc(2, "b", 0))},
		// Two states are one if they lead to ends by the same words: `a` of even number.
		{net(4, []int{0, 2}, arc(0, "a", 1), arc(1, "a", 2), arc(2, "a", 3), arc(3, "a", 0)),
			net(2, []int{0}, arc(0, "a", 1), arc(1, "a", 0))},
	} {
		before := auto.Copy(c.n)
		if m, e := Min(c.n); !sameNet(m, c.want) || e != api.OK {
			t.Errorf("net %d: %v %d, not %v", i, m, e, c.want)
		}
		if is, e := IsMin(c.want); !is || e != api.OK {
			t.Errorf("net %d: IsMin of %v: %v %d", i, c.want, is, e)
		}
		if is, e := IsMin(c.n); is != sameNet(c.n, c.want) || e != api.OK {
			t.Errorf("net %d: IsMin of %v: %v %d", i, c.n, is, e)
		}
		if !sameNet(before, c.n) {
			t.Errorf("net %d has changed: %v", i, c.n)
		}
	}
}

func TestIsMin(t *testing.T) { // P3.1
	// `ab`, `b` and what begins with `aa`.
	least := net(4, []int{2, 3}, arc(0, "a", 1), arc(0, "b", 2), arc(1, "a", 3), arc(1, "b", 2), arc(3, "a", 3), arc(3, "b", 3))
	if is, e := IsMin(least); !is || e != api.OK {
		t.Fatalf("IsMin: %v %d", is, e)
	}
	for name, change := range map[string]func(n *api.Net){
		"arcs in another order":      func(n *api.Net) { slices.Reverse(n.Arcs) },
		"two arcs in another order":  func(n *api.Net) { n.Arcs[4], n.Arcs[5] = n.Arcs[5], n.Arcs[4] },
		"ends in another order":      func(n *api.Net) { slices.Reverse(n.Ends) },
		"an arc twice":               func(n *api.Net) { n.Arcs = slices.Insert(n.Arcs, 3, n.Arcs[3]) },
		"an end twice":               func(n *api.Net) { n.Ends = slices.Insert(n.Ends, 1, n.Ends[1]) },
		"a state that isn't reached": func(n *api.Net) { n.States++ },
		"a state without an end":     func(n *api.Net) { n.States++; n.Arcs = slices.Insert(n.Arcs, 4, arc(2, "a", 4)) },
		"an empty arc":               func(n *api.Net) { n.Arcs = slices.Insert(n.Arcs, 0, arc(0, "", 0)) },
		"two states alike": func(n *api.Net) {
			n.States++
			n.Arcs[5].To = 4
			n.Ends = append(n.Ends, api.End{State: 4})
			n.Arcs = append(n.Arcs, arc(4, "a", 3), arc(4, "b", 4))
		},
		"two arcs by one symbol": func(n *api.Net) { n.Arcs = slices.Insert(n.Arcs, 4, arc(2, "a", 2), arc(2, "a", 3)) },
		"other numbers": func(n *api.Net) {
			*n = net(4, []int{2, 3}, arc(0, "a", 1), arc(0, "b", 3), arc(1, "a", 2), arc(1, "b", 3), arc(2, "a", 2), arc(2, "b", 2))
		},
	} {
		n := auto.Copy(least)
		change(&n)
		if is, e := IsMin(n); is || e != api.OK {
			t.Errorf("%s: %v %d", name, is, e)
		}
	}
	if is, e := IsMin(api.Net{Sigma: []string{}, States: 1, Arcs: []api.Arc{}, Ends: []api.End{}}); !is || e != api.OK {
		t.Errorf("no word over no symbols: %v %d", is, e)
	}
}

// plain returns the minimal acceptor by another way than the program's: what is made deterministic from behind, and then from ahead, is minimal.
func plain(n api.Net) api.Net {
	ends := map[int]bool{}
	for _, d := range n.Ends {
		ends[d.State] = true
	}
	arcs, begins, ends, states := deterministic(n.Sigma, turned(n.Arcs), ends, map[int]bool{0: true})
	arcs, _, ends, states = deterministic(n.Sigma, turned(arcs), ends, begins)
	m := api.Net{Sigma: n.Sigma, States: max(states, 1), Arcs: arcs}
	for q := range states {
		if ends[q] {
			m.Ends = append(m.Ends, api.End{State: q})
		}
	}
	return m
}

func turned(arcs []api.Arc) []api.Arc {
	arcs = slices.Clone(arcs)
	for i, a := range arcs {
		arcs[i].From, arcs[i].To = a.To, a.From
	}
	return arcs
}

// deterministic returns the arcs, begins, ends and number of the nonempty sets of states that words lead to.
func deterministic(sigma []string, arcs []api.Arc, begins, ends map[int]bool) ([]api.Arc, map[int]bool, map[int]bool, int) {
	lead := func(at map[int]bool, s string) map[int]bool {
		to := map[int]bool{}
		for _, a := range arcs {
			if a.In == s && at[a.From] {
				to[a.To] = true
			}
		}
		return to
	}
	var sets []map[int]bool
	number := func(at map[int]bool) int {
		at = maps.Clone(at)
		for many := -1; many < len(at); {
			many = len(at)
			maps.Copy(at, lead(at, ""))
		}
		i := slices.IndexFunc(sets, func(b map[int]bool) bool { return maps.Equal(at, b) })
		if i < 0 && len(at) > 0 {
			i = len(sets)
			sets = append(sets, at)
		}
		return i
	}
	number(begins)
	var made []api.Arc
	last := map[int]bool{}
	for i := 0; i < len(sets); i++ {
		for _, s := range sigma {
			if to := number(lead(sets[i], s)); to >= 0 {
				made = append(made, arc(i, s, to))
			}
		}
		for q := range sets[i] {
			if ends[q] {
				last[i] = true
			}
		}
	}
	return made, map[int]bool{0: len(sets) > 0}, last, len(sets)
}

// made returns nets of up to so many states, all sorts of them, the same ones in each run.
func made(many, states int) []api.Net {
	seed := uint32(states)
	roll := func(n int) int {
		seed = seed*1664525 + 1013904223
		return int(seed>>16) % n
	}
	var l []api.Net
	for range many {
		n := net(1+roll(states), nil)
		for range roll(2*states + 1) {
			n.Arcs = append(n.Arcs, arc(roll(n.States), []string{"", "a", "b", "a", "b"}[roll(5)], roll(n.States)))
		}
		for range roll(3) {
			n.Ends = append(n.Ends, api.End{State: roll(n.States)})
		}
		l = append(l, n)
	}
	return l
}

// TestMinOfMany compares Min with another way to make it.
func TestMinOfMany(t *testing.T) { // P3.1
	for i, n := range slices.Concat(made(1500, 4), made(500, 8)) {
		want := plain(n)
		m, e := Min(n)
		if !sameNet(m, want) || e != api.OK {
			t.Fatalf("net %d %v: %v %d, not %v", i, n, m, e, want)
		}
		if is, e := IsMin(n); is != sameNet(n, want) || e != api.OK {
			t.Fatalf("net %d %v: IsMin: %v %d", i, n, is, e)
		}
		if is, e := IsMin(m); !is || e != api.OK {
			t.Fatalf("net %d %v: IsMin of Min: %v %d", i, n, is, e)
		}
	}
}

func TestSets(t *testing.T) { // P3.2
	type two = func(a, b api.Net) (api.Net, api.Errno)
	for i, c := range []struct {
		f          two
		a, b, want string
	}{
		{Either, "a ab", "b ab", "a b ab"},
		{Either, "", "a", "a"},
		{Either, "a", "", "a"},
		{Either, "", "", ""},
		{Either, "-", "a", "- a"},
		{Both, "a ab", "b ab", "ab"},
		{Both, "a", "b", ""},
		{Both, "- a", "- b", "-"},
		{Both, "", "a", ""},
		{Less, "a ab", "b ab", "a"},
		{Less, "a", "a", ""},
		{Less, "- a", "-", "a"},
		{Less, "", "a", ""},
		{Less, "a", "", "a"},
		{Chain, "a ab", "b bb -", "a ab abb abbb"},
		{Chain, "-", "-", "-"},
		{Chain, "-", "a b", "a b"},
		{Chain, "a b", "-", "a b"},
		{Chain, "", "a", ""},
		{Chain, "a", "", ""},
		{Chain, "", "", ""},
		{Left, "abc ab c", "c bc", "- a ab"},
		{Left, "a ab", "-", "a ab"},
		{Left, "a ab", "- a ab", "- a ab"},
		{Left, "a ab", "c abc", ""},
		{Left, "a ab", "", ""},
		{Left, "", "a", ""},
		{Left, "", "-", ""},
		{Left, "-", "-", "-"},
		{Left, "-", "a", ""},
	} {
		n := good[api.Net](t)(c.f(of(c.a), of(c.b)))
		if got := written(t, n); got != c.want {
			t.Errorf("%d: %q and %q: %q, not %q", i, c.a, c.b, got, c.want)
		}
		if is, e := IsMin(n); !is || e != api.OK {
			t.Errorf("%d: %q and %q: %v is not minimal", i, c.a, c.b, n)
		}
	}
}

func TestInfiniteSets(t *testing.T) { // P3.2, P3.4
	abc := word("abc")
	one := good[api.Net](t)
	none := over(abc, net(1, nil))
	empty := over(abc, net(1, []int{0}))
	for i, c := range []struct{ got, want api.Net }{
		{one(Complement(none)), all(abc)},
		{one(Complement(all(abc))), none},
		{one(Complement(empty)), over(abc, net(2, []int{1}, arc(0, "a", 1), arc(0, "b", 1), arc(0, "c", 1), arc(1, "a", 1), arc(1, "b", 1), arc(1, "c", 1)))},
		{one(Complement(net(2, []int{1}, arc(0, "a", 1)))), net(3, []int{0, 2}, arc(0, "a", 1), arc(0, "b", 2), arc(1, "a", 2), arc(1, "b", 2), arc(2, "a", 2), arc(2, "b", 2))},
		// Over no symbols there is one word, the empty one.
		{one(Complement(api.Net{States: 1})), api.Net{States: 1, Ends: []api.End{{}}}},
		{one(Complement(api.Net{States: 1, Ends: []api.End{{}}})), api.Net{States: 1}},
		{one(Star(none)), empty},
		{one(Star(empty)), empty},
		{one(Star(of("a b c"))), all(abc)},
		{one(Star(of("aa"))), over(abc, net(2, []int{0}, arc(0, "a", 1), arc(1, "a", 0)))},
		{one(Star(of("a ab"))), over(abc, net(2, []int{0, 1}, arc(0, "a", 1), arc(1, "a", 1), arc(1, "b", 0)))},
		// An end with ways on: the word goes on, or begins anew.
		{one(Star(over(abc, net(2, []int{1}, arc(0, "a", 1), arc(1, "b", 1))))), over(abc, net(2, []int{0, 1}, arc(0, "a", 1), arc(1, "a", 1), arc(1, "b", 1)))},
		// A way back to the begin is no end of a word.
		{one(Star(net(2, []int{1}, arc(0, "b", 0), arc(0, "a", 1)))), net(2, []int{0}, arc(0, "a", 0), arc(0, "b", 1), arc(1, "a", 0), arc(1, "b", 1))},
		{one(Chain(all(abc), of("a"))), over(abc, net(2, []int{1}, arc(0, "a", 1), arc(0, "b", 0), arc(0, "c", 0), arc(1, "a", 1), arc(1, "b", 0), arc(1, "c", 0)))},
		{one(Chain(all(abc), all(abc))), all(abc)},
		{one(Left(all(abc), of("a"))), all(abc)},
		{one(Left(all(abc), none)), none},
		{one(Left(of("ab"), all(abc))), over(abc, net(3, []int{0, 1, 2}, arc(0, "a", 1), arc(1, "b", 2)))},
		{one(Less(all(abc), all(abc))), none},
		{one(Either(all(abc), none)), all(abc)},
		{one(Both(all(abc), of("abc"))), one(Min(of("abc")))},
	} {
		if !sameNet(c.got, c.want) {
			t.Errorf("%d: %v, not %v", i, c.got, c.want)
		}
	}
}

func TestCompared(t *testing.T) { // P3.3
	type two = func(a, b api.Net) (bool, []string, api.Errno)
	for i, c := range []struct {
		f    two
		a, b string
		want string // `!` if it is true
	}{
		{Same, "a ab", "ab a", "!"},
		{Same, "", "", "!"},
		{Same, "-", "-", "!"},
		{Same, "", "-", ""},
		{Same, "a ab b", "b ab", "a"},
		{Same, "b ab", "a ab b", "a"},
		{Same, "b aa", "aa ab", "b"}, // the shorter one is first, whichever accepts it
		{Same, "ab aa", "ab", "aa"},
		{Same, "ac ab", "aa", "aa"},
		{Within, "a ab", "ab b a", "!"},
		{Within, "", "", "!"},
		{Within, "", "a", "!"},
		{Within, "a b ab", "b c", "a"},
		{Within, "ab aab", "a", "ab"},
		{Within, "-", "a", ""},
		{Within, "a -", "-", "a"},
		{Apart, "a ab", "b aa", "!"},
		{Apart, "", "", "!"},
		{Apart, "a", "", "!"},
		{Apart, "ab aab c", "b aab ab", "ab"},
		{Apart, "- a", "a -", ""},
		{Apart, "ca cb b", "cb ca a", "ca"},
	} {
		is, w, e := c.f(of(c.a), of(c.b))
		if is != (c.want == "!") || strings.Join(w, "") != strings.Trim(c.want, "!") || e != api.OK {
			t.Errorf("%d: %q and %q: %v %q %d, not %q", i, c.a, c.b, is, w, e, c.want)
		}
	}
	sigma := []string{"+Pl", "a", "aa"}
	is, w, e := Same(over(sigma, net(3, []int{2}, arc(0, "aa", 1), arc(0, "a", 1), arc(1, "+Pl", 2))), over(sigma, net(1, nil)))
	if is || !slices.Equal(w, []string{"a", "+Pl"}) || e != api.OK {
		t.Errorf("symbols of several letters: %v %q %d", is, w, e)
	}
}

// shortlex returns all words over `a`, `b` of at most length symbols, in shortlex order, as raw texts.
func shortlex(length int) []string {
	l := []string{""}
	for i := 0; i < len(l) && len(l[i]) < length; i++ {
		l = append(l, l[i]+"a", l[i]+"b")
	}
	return l
}

// holds returns the raw texts of the words over `a`, `b` of at most length symbols that are accepted.
func holds(n api.Net, length int) map[string]bool {
	type step struct {
		from   int
		symbol string
	}
	m := plain(n)
	next := map[step]int{}
	for _, a := range m.Arcs {
		next[step{a.From, a.In}] = a.To
	}
	leads := map[string]int{"": 0}
	is := map[string]bool{}
	for _, s := range shortlex(length) {
		if s != "" {
			from, there := leads[s[:len(s)-1]]
			to, leadsOn := next[step{from, s[len(s)-1:]}]
			if !there || !leadsOn {
				continue
			}
			leads[s] = to
		}
		if slices.Contains(m.Ends, api.End{State: leads[s]}) {
			is[s] = true
		}
	}
	return is
}

// cut reports whether a text can be cut in two, one of left and one of right behind it.
func cut(s string, left, right func(s string) bool) bool {
	for k := range len(s) + 1 {
		if left(s[:k]) && right(s[k:]) {
			return true
		}
	}
	return false
}

// TestByMeaning compares all functions with the plain meaning of many small nets.
func TestByMeaning(t *testing.T) { // P3.2 to P3.4
	nets := made(1000, 3)
	in := make([]map[string]bool, len(nets))
	for i, n := range nets {
		in[i] = holds(n, 12)
	}
	for i := 1; i < len(nets); i++ {
		checkSets(t, nets[i], nets[i-1], in[i], in[i-1])
		checkLeft(t, nets[i], nets[i-1], in[i], in[i-1])
		checkCompared(t, nets[i], nets[i-1], in[i], in[i-1])
	}
}

// checkSets looks at the words of at most 7 symbols.
func checkSets(t *testing.T, x, y api.Net, a, b map[string]bool) {
	t.Helper()
	inA := func(s string) bool { return a[s] }
	inB := func(s string) bool { return b[s] }
	var starred func(s string) bool
	starred = func(s string) bool {
		return s == "" || cut(s, func(s string) bool { return s != "" && a[s] }, starred)
	}
	one := good[api.Net](t)
	for name, c := range map[string]struct {
		n    api.Net
		want func(s string) bool
	}{
		"Complement": {one(Complement(x)), func(s string) bool { return !a[s] }},
		"Either":     {one(Either(x, y)), func(s string) bool { return a[s] || b[s] }},
		"Both":       {one(Both(x, y)), func(s string) bool { return a[s] && b[s] }},
		"Less":       {one(Less(x, y)), func(s string) bool { return a[s] && !b[s] }},
		"Chain":      {one(Chain(x, y)), func(s string) bool { return cut(s, inA, inB) }},
		"Star":       {one(Star(x)), starred},
	} {
		got := holds(c.n, 7)
		for _, s := range shortlex(7) {
			if got[s] != c.want(s) {
				t.Fatalf("%s of %v and %v: %q: %v", name, x, y, s, got[s])
			}
		}
		if !sameNet(c.n, plain(c.n)) {
			t.Fatalf("%s of %v and %v is not minimal: %v", name, x, y, c.n)
		}
	}
}

// checkLeft looks at the words of at most 4 symbols. Of two nets of at most 3 states there are 9 pairs of states: if any word behind one of these leads both to ends, one of at most 8 symbols does.
func checkLeft(t *testing.T, x, y api.Net, a, b map[string]bool) {
	t.Helper()
	n := good[api.Net](t)(Left(x, y))
	got := holds(n, 4)
	behind := shortlex(8)
	for _, s := range shortlex(4) {
		want := slices.ContainsFunc(behind, func(v string) bool { return b[v] && a[s+v] })
		if got[s] != want {
			t.Fatalf("Left of %v and %v: %q: %v", x, y, s, got[s])
		}
	}
	if !sameNet(n, plain(n)) || n.States > plain(x).States {
		t.Fatalf("Left of %v and %v: %v", x, y, n)
	}
}

// checkCompared looks at the words of at most 12 symbols; longer ones tell few nets of at most 3 states apart.
func checkCompared(t *testing.T, x, y api.Net, a, b map[string]bool) {
	t.Helper()
	for name, c := range map[string]struct {
		f    func(a, b api.Net) (bool, []string, api.Errno)
		told func(s string) bool
	}{
		"Same":   {Same, func(s string) bool { return a[s] != b[s] }},
		"Within": {Within, func(s string) bool { return a[s] && !b[s] }},
		"Apart":  {Apart, func(s string) bool { return a[s] && b[s] }},
	} {
		is, w, e := c.f(x, y)
		got := strings.Join(w, "")
		words := shortlex(12)
		if first := slices.IndexFunc(words, c.told); first >= 0 {
			if is || got != words[first] || e != api.OK {
				t.Fatalf("%s of %v and %v: %v %q %d, not %q", name, x, y, is, w, e, words[first])
			}
		} else if is != (len(w) == 0) || !is && len(w) <= 12 || e != api.OK {
			t.Fatalf("%s of %v and %v: %v %q %d", name, x, y, is, w, e)
		}
	}
	if is, _, _ := Same(x, y); is != sameNet(plain(x), plain(y)) {
		t.Fatalf("Same of %v and %v: %v", x, y, is)
	}
}
