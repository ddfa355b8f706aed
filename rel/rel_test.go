package rel

import (
	"maps"
	"slices"
	"strings"
	"testing"

	"ablaut/api"
	"ablaut/auto"
)

// word returns the word of symbols of one byte.
func word(s string) []string {
	if s == "" {
		return nil
	}
	return strings.Split(s, "")
}

func same(a, b [][]string) bool {
	return slices.EqualFunc(a, b, slices.Equal[[]string])
}

func sameNet(a, b api.Net) bool {
	return a.States == b.States && slices.Equal(a.Sigma, b.Sigma) && slices.Equal(a.Arcs, b.Arcs) && slices.Equal(a.Ends, b.Ends)
}

// arc returns an arc of a relation.
func arc(from int, above, below string, to int) api.Arc {
	return api.Arc{From: from, In: above, Out: below, To: to}
}

// net returns a relation over `a`, `b`, `c`.
func net(states int, ends []int, arcs ...api.Arc) api.Net {
	n := api.Net{Sigma: word("abc"), States: states, Arcs: arcs}
	for _, q := range ends {
		n.Ends = append(n.Ends, api.End{State: q})
	}
	return n
}

// of returns a relation over `a`, `b`, `c` of the pairs of a list that blanks divide, each two words with `:` between; one word is above and below.
func of(s string) api.Net {
	n := net(1, nil)
	at := func(w []string, i int) string {
		if i < len(w) {
			return w[i]
		}
		return ""
	}
	for _, f := range strings.Fields(s) {
		above, below, two := strings.Cut(f, ":")
		if !two {
			below = above
		}
		x, y := word(above), word(below)
		q := 0
		for i := range max(len(x), len(y)) {
			n.Arcs = append(n.Arcs, arc(q, at(x, i), at(y, i), n.States))
			q = n.States
			n.States++
		}
		n.Ends = append(n.Ends, api.End{State: q})
	}
	return n
}

// written returns the pairs of a relation, of at most 6 symbols on each side, in order, as of takes them.
func written(n api.Net) string {
	return list(pairsOf(n, 6, 6))
}

// good returns the net of a call that is to have no error.
func good(t *testing.T) func(n api.Net, e api.Errno) api.Net {
	t.Helper()
	return func(n api.Net, e api.Errno) api.Net {
		t.Helper()
		if e != api.OK || Validate(n) != api.OK {
			t.Fatalf("error %d, net %v", e, n)
		}
		return n
	}
}

// wordsOf returns the words of a list that blanks divide; `-` is the empty word.
func wordsOf(s string) [][]string {
	var l [][]string
	for _, f := range strings.Fields(s) {
		l = append(l, word(strings.Trim(f, "-")))
	}
	return l
}

func TestExample(t *testing.T) { // the chapter's example
	n := good(t)(Cross(of("a"), net(1, []int{0}, arc(0, "b", "b", 0))))
	l, more, e := Down(n, word("a"), 3)
	if !same(l, wordsOf("- b bb")) || !more || e != api.OK {
		t.Errorf("Down: %v %v %d", l, more, e)
	}
	for _, x := range []string{"", "b", "aa"} {
		if l, more, e := Down(n, word(x), 3); len(l) > 0 || more || e != api.OK {
			t.Errorf("Down of %q: %v %v %d", x, l, more, e)
		}
	}
}

func TestHolds(t *testing.T) { // P5.1
	long := []string{"+Pl", "a", "aa"}
	loops := net(3, []int{2}, arc(0, "", "", 1), arc(1, "", "", 0), arc(1, "a", "", 1), arc(1, "", "b", 1), arc(1, "c", "c", 2), arc(2, "", "", 2))
	for i, c := range []struct {
		n    api.Net
		x, y string
		want bool
	}{
		{of("a:b"), "a", "b", true},
		{of("a:b"), "b", "a", false},
		{of("a:b"), "a", "", false},
		{of("a:b"), "", "b", false},
		{of("a:b"), "", "", false},
		{of("a:b"), "a", "bb", false},
		{of("a:b"), "aa", "b", false},
		{of("abc:b b:c"), "abc", "b", true},
		{of("b:abc b:c"), "b", "abc", true},
		{of("b:abc b:c"), "b", "c", true},
		{of("b:abc b:c"), "b", "b", false},
		{of(""), "", "", false},
		{of(":"), "", "", true},
		// Words of symbols that are not in Sigma are in no pair.
		{of("a:b"), "x", "b", false},
		{of("a:b"), "a", "x", false},
		{of("a:b"), "ax", "b", false},
		{of(":b"), "x", "b", false},
		{of("a:"), "a", "x", false},
		{net(1, []int{0}), "x", "x", false},
		{loops, "c", "c", true},
		{loops, "aac", "c", true},
		{loops, "c", "bbc", true},
		{loops, "aac", "bc", true},
		{loops, "aac", "bcb", false},
		{loops, "aaca", "bc", false},
		{loops, "aa", "bc", false},
		{loops, strings.Repeat("a", api.MaxWord-1) + "c", strings.Repeat("b", api.MaxWord-1) + "c", true},
		{loops, strings.Repeat("a", api.MaxWord), strings.Repeat("b", api.MaxWord-1) + "c", false},
		// Ends and arcs in any order, and more than once; a state that is an end twice.
		{net(2, []int{1, 0, 1}, arc(1, "b", "", 0), arc(0, "a", "a", 1), arc(0, "a", "a", 1)), "ab", "a", true},
	} {
		before := auto.Copy(c.n)
		if is, e := Holds(c.n, word(c.x), word(c.y)); is != c.want || e != api.OK {
			t.Errorf("%d: %q, %q: %v %d", i, c.x, c.y, is, e)
		}
		if !sameNet(before, c.n) {
			t.Errorf("%d: the net has changed: %v", i, c.n)
		}
	}
	// Symbols of several letters are one place each, and are not their letters.
	n := api.Net{Sigma: long, States: 2, Arcs: []api.Arc{arc(0, "aa", "+Pl", 1)}, Ends: []api.End{{State: 1}}}
	if is, e := Holds(n, []string{"aa"}, []string{"+Pl"}); !is || e != api.OK {
		t.Errorf("long symbols: %v %d", is, e)
	}
	if is, e := Holds(n, []string{"a", "a"}, []string{"+Pl"}); is || e != api.OK {
		t.Errorf("letters of a long symbol: %v %d", is, e)
	}
}

func TestTwoRelations(t *testing.T) { // P5.2
	type two = func(a, b api.Net) (api.Net, api.Errno)
	for i, c := range []struct {
		f          two
		a, b, want string
	}{
		{Cross, "a ab", "b c", "a:b a:c ab:b ab:c"},
		{Cross, ":", "b", ":b"},
		{Cross, "a", ":", "a:"},
		{Cross, ":", ":", ":"},
		{Cross, "", "b", ""},
		{Cross, "a", "", ""},
		{Cross, "abc", "cba", "abc:cba"},
		{Either, "a:b ab", "b a:b", "a:b ab:ab b:b"},
		{Either, "", "a:b", "a:b"},
		{Either, "a:b", "", "a:b"},
		{Either, "", "", ""},
		{Chain, "a:b :c", "b:c", "ab:bc b:cc"},
		{Chain, "a:b", ":", "a:b"},
		{Chain, ":", "a:b", "a:b"},
		{Chain, "a:b", "", ""},
		{Chain, "", "a:b", ""},
		{Chain, "a: a:b", ":b b:c", "a:b a:bb ab:bc ab:c"},
		{Compose, "a:b", "b:c", "a:c"},
		{Compose, "a:b", "a:c", ""},
		{Compose, "a:b ab:c", "b:a b: c:bb", "a: a:a ab:bb"},
		{Compose, "a:bb", "b:c", ""},
		{Compose, "a:", ":b", "a:b"},
		{Compose, ":a", "a:", ":"},
		{Compose, ":", "", ""},
		{Compose, "a:bcb", "bcb:aaa", "a:aaa"},
		{Prior, "a:b", "a:c b:c", "a:b b:c"},
		{Prior, "a:b a:c", "a:a", "a:b a:c"},
		{Prior, "", "a:c b:c", "a:c b:c"},
		{Prior, "a:b", "", "a:b"},
		{Prior, "ab:", "a:b abb:c abc: :a", ":a a:b ab: abb:c abc:"},
		{Prior, ":a", ":b", ":a"},
		// All words above in a are of `ab`: what goes on differently in b is kept.
		{Prior, "ab:a", "ac:b ab:b b:c", "ab:a ac:b b:c"},
		{Lenient, "a:b b:c", "b:a", "a:a b:c"},
		{Lenient, "a:b a:c", "b:a", "a:a"},
		{Lenient, "a:b a:c b:c", "a:a", "a:b a:c b:c"},
		{Lenient, "a:b", "", "a:b"},
		{Lenient, "", "b:a", ""},
		{Lenient, "a: b:c", ":a", "a:a b:c"},
	} {
		a, b := of(c.a), of(c.b)
		n := good(t)(c.f(a, b))
		if got := written(n); got != c.want {
			t.Errorf("%d: %q and %q: %q, not %q", i, c.a, c.b, got, c.want)
		}
		if !slices.Equal(n.Sigma, a.Sigma) {
			t.Errorf("%d: the alphabet is %q", i, n.Sigma)
		}
		if !sameNet(a, of(c.a)) || !sameNet(b, of(c.b)) {
			t.Errorf("%d: %q and %q have changed", i, c.a, c.b)
		}
	}
}

func TestOneRelation(t *testing.T) { // P5.2
	type one = func(n api.Net) (api.Net, api.Errno)
	for i, c := range []struct {
		f       one
		n, want string
	}{
		{Copies, "a ab :", ": a:a ab:ab"},
		{Copies, "", ""},
		{Inverse, "a:b :c ab:a", "a:ab b:a c:"},
		{Upper, "a:b :c ab:a", ": a:a ab:ab"},
		{Upper, "", ""},
		{Lower, "a:b :c ab:a", "a:a b:b c:c"},
		{Lower, "a:", ":"},
		{Trim, "a:b :c ab:a", ":c a:b ab:a"},
		{Trim, "", ""},
		{Star, "", ":"},
		{Star, ":", ":"},
	} {
		n := of(c.n)
		if got := written(good(t)(c.f(n))); got != c.want {
			t.Errorf("%d: %q: %q, not %q", i, c.n, got, c.want)
		}
		if !sameNet(n, of(c.n)) {
			t.Errorf("%d: %q has changed", i, c.n)
		}
	}
	// What is above or below alone is an acceptor, though the relation is none.
	for i, f := range []one{Upper, Lower} {
		if n := good(t)(f(of("a:b :c ab:a"))); auto.Validate(n) != api.OK {
			t.Errorf("%d: %v is no acceptor", i, n)
		}
	}
	star := good(t)(Star(of("a:bb c:")))
	if got, want := list(pairsOf(star, 2, 4)), ": a:bb aa:bbbb ac:bb c: ca:bb cc:"; got != want {
		t.Errorf("Star: %q, not %q", got, want)
	}
}

func TestWaysBack(t *testing.T) { // P5.2
	// An arc that leads back to the begin, or on from an end, is no way from one relation to the other.
	back := net(2, []int{1}, arc(0, "a", "b", 0), arc(0, "b", "", 1), arc(1, "", "c", 1))
	other := net(1, []int{0}, arc(0, "c", "a", 0))
	for name, c := range map[string]struct {
		n           api.Net
		holds, none []held
	}{
		"Either": {good(t)(Either(back, other)),
			[]held{{"", ""}, {"cc", "aa"}, {"aab", "bbcc"}, {"b", ""}}, []held{{"ac", "ba"}, {"a", "b"}, {"bc", "ca"}}},
		"the other way round": {good(t)(Either(other, back)),
			[]held{{"", ""}, {"cc", "aa"}, {"aab", "bbcc"}, {"b", ""}}, []held{{"ca", "ab"}, {"cb", "a"}, {"a", "b"}}},
		"Chain": {good(t)(Chain(back, other)),
			[]held{{"b", ""}, {"abcc", "bcaa"}, {"bc", "ca"}}, []held{{"", ""}, {"cb", "a"}, {"bcb", "a"}, {"bc", "ac"}}},
		"Star": {good(t)(Star(back)),
			[]held{{"", ""}, {"b", "cc"}, {"bab", "cbc"}, {"bb", "cc"}}, []held{{"a", "b"}, {"ba", "cb"}, {"", "c"}}},
		"Star with its begin an end": {good(t)(Star(net(2, []int{0}, arc(0, "a", "b", 1), arc(1, "b", "a", 0)))),
			[]held{{"", ""}, {"ab", "ba"}, {"abab", "baba"}}, []held{{"a", "b"}, {"aab", "bba"}}},
	} {
		all := pairsOf(c.n, 5, 5)
		for _, p := range c.holds {
			if !all[p] {
				t.Errorf("%s: %v is not held", name, p)
			}
		}
		for _, p := range c.none {
			if all[p] {
				t.Errorf("%s: %v is held", name, p)
			}
		}
	}
}

func TestComposeRound(t *testing.T) { // P5.2
	// There are infinitely many words between: `a` is above `bcc..c`, and of each number of these `b` is below.
	a := net(2, []int{1}, arc(0, "a", "b", 1), arc(1, "", "c", 1))
	b := net(2, []int{1}, arc(0, "b", "", 1), arc(1, "c", "", 1), arc(1, "", "b", 0), arc(1, "", "", 1))
	n := good(t)(Compose(a, b))
	if got := written(n); got != "a:" {
		t.Errorf("%q", got)
	}
	mustBeTrim(t, n)
}

func TestPriorOfInfinite(t *testing.T) { // P5.2
	// a has all words with an `a`, which become `b`; of the others b has infinitely many, too.
	a := net(2, []int{1}, arc(0, "b", "", 0), arc(0, "c", "", 0), arc(0, "a", "b", 1), arc(1, "a", "", 1), arc(1, "b", "", 1), arc(1, "c", "", 1))
	b := net(1, []int{0}, arc(0, "a", "c", 0), arc(0, "b", "c", 0), arc(0, "", "", 0))
	n := good(t)(Prior(a, b))
	if got, want := list(pairsOf(n, 2, 2)), ": a:b aa:b ab:b ac:b b:c ba:b bb:cc ca:b"; got != want {
		t.Errorf("Prior: %q, not %q", got, want)
	}
	n = good(t)(Lenient(b, net(2, []int{1}, arc(0, "c", "a", 1), arc(1, "c", "a", 1))))
	if got, want := list(pairsOf(n, 1, 2)), ": a:a b:a"; got != want {
		t.Errorf("Lenient: %q, not %q", got, want)
	}
}

func TestTrim(t *testing.T) { // P5.2
	for i, c := range []struct{ n, want api.Net }{
		// Without a pair nothing is left but 0.
		{net(1, nil, arc(0, "a", "b", 0)), net(1, nil)},
		{net(3, nil, arc(0, "a", "b", 1), arc(1, "", "", 2), arc(2, "a", "", 0)), net(1, nil)},
		{net(3, []int{2}, arc(0, "a", "b", 1), arc(2, "a", "b", 1)), net(1, nil)},
		{net(1, []int{0}), net(1, []int{0})},
		// A state that is not reached, one that leads to no end; the others keep their order.
		{net(5, []int{4, 1}, arc(0, "a", "b", 4), arc(1, "b", "", 4), arc(4, "", "c", 2), arc(2, "a", "", 4), arc(0, "a", "", 3), arc(3, "b", "b", 3)),
			net(3, []int{2}, arc(0, "a", "b", 2), arc(2, "", "c", 1), arc(1, "a", "", 2))},
	} {
		before := auto.Copy(c.n)
		if got, e := Trim(c.n); !sameNet(got, c.want) || e != api.OK {
			t.Errorf("%d: %v %d, not %v", i, got, e, c.want)
		}
		if !sameNet(before, c.n) {
			t.Errorf("%d: the net has changed: %v", i, c.n)
		}
	}
}

func TestDown(t *testing.T) { // P5.4
	many := net(2, []int{1}, arc(0, "a", "b", 0), arc(0, "a", "c", 0), arc(0, "", "", 1), arc(1, "", "a", 1), arc(1, "b", "", 1))
	for i, c := range []struct {
		n    api.Net
		x    string
		most int
		want string
		more bool
	}{
		{of("a:b a:cc a: b:a"), "a", 5, "- b cc", false},
		{of("a:b a:cc a: b:a"), "a", 3, "- b cc", false},
		{of("a:b a:cc a: b:a"), "a", 2, "- b", true},
		{of("a:b a:cc a: b:a"), "a", 1, "-", true},
		{of("a:b a:cc a: b:a"), "b", 1, "a", false},
		{of("a:b a:cc a: b:a"), "c", 1, "", false},
		{of("a:b a:cc a: b:a"), "", 1, "", false},
		{of("a:b a:cc a: b:a"), "ab", 1, "", false},
		// Shorter ones first, then in ascending order; each once, by however many ways.
		{of("a:cb a:c a:bcc a:ba a:ba a:c"), "a", 9, "c ba cb bcc", false},
		{of(""), "a", 1, "", false},
		{of(":a"), "", 1, "a", false},
		// Infinitely many.
		{many, "", 3, "- a aa", true},
		{many, "a", 6, "b c ba ca baa caa", true},
		{many, "aab", 5, "bb bc cb cc bba", true},
		{many, "ba", 5, "", false},
		// A symbol that is not in Sigma: nothing.
		{many, "x", 5, "", false},
		{many, "ax", 5, "", false},
		{net(1, []int{0}, arc(0, "", "a", 0)), "x", 5, "", false},
	} {
		before := auto.Copy(c.n)
		got, more, e := Down(c.n, word(c.x), c.most)
		if !same(got, wordsOf(c.want)) || more != c.more || e != api.OK {
			t.Errorf("%d: Down of %q: %q %v %d, not %q %v", i, c.x, got, more, e, c.want, c.more)
		}
		turned := good(t)(Inverse(c.n))
		got, more, e = Up(turned, word(c.x), c.most)
		if !same(got, wordsOf(c.want)) || more != c.more || e != api.OK {
			t.Errorf("%d: Up of %q: %q %v %d, not %q %v", i, c.x, got, more, e, c.want, c.more)
		}
		l, more, e := auto.Words(good(t)(Image(c.n, word(c.x))), c.most)
		if !same(l, wordsOf(c.want)) || more != c.more || e != api.OK {
			t.Errorf("%d: Image of %q: %q %v %d, not %q %v", i, c.x, l, more, e, c.want, c.more)
		}
		if !sameNet(before, c.n) {
			t.Errorf("%d: the net has changed: %v", i, c.n)
		}
	}
}

func TestLongSymbols(t *testing.T) { // P5.2, P5.4
	long := []string{"+Pl", "a", "aa", "s"}
	n := api.Net{Sigma: long, States: 2, Arcs: []api.Arc{arc(0, "aa", "a", 0), arc(0, "+Pl", "s", 1), arc(0, "+Pl", "", 1)}, Ends: []api.End{{State: 1}}}
	l, more, e := Down(n, []string{"aa", "+Pl"}, 2)
	if !same(l, [][]string{{"a"}, {"a", "s"}}) || more || e != api.OK {
		t.Errorf("Down: %q %v %d", l, more, e)
	}
	l, more, e = Up(n, []string{"a", "s"}, 2)
	if !same(l, [][]string{{"aa", "+Pl"}}) || more || e != api.OK {
		t.Errorf("Up: %q %v %d", l, more, e)
	}
	r := good(t)(Compose(n, good(t)(Inverse(n))))
	if l, _, _ := Down(r, []string{"aa", "+Pl"}, 2); !same(l, [][]string{{"aa", "+Pl"}}) || !slices.Equal(r.Sigma, long) {
		t.Errorf("Compose: %q", l)
	}
	// An alphabet without symbols has only the pair of the empty words.
	none := api.Net{States: 1, Ends: []api.End{{}}}
	for name, n := range map[string]api.Net{
		"Cross": good(t)(Cross(none, none)), "Copies": good(t)(Copies(none)), "Either": good(t)(Either(none, none)),
		"Chain": good(t)(Chain(none, none)), "Star": good(t)(Star(none)), "Compose": good(t)(Compose(none, none)),
		"Prior": good(t)(Prior(none, none)), "Lenient": good(t)(Lenient(none, none)), "Image": good(t)(Image(none, nil)),
	} {
		if all := pairsOf(n, 2, 2); !maps.Equal(all, map[held]bool{{}: true}) || len(n.Sigma) > 0 {
			t.Errorf("%s of no symbols: %v", name, n)
		}
	}
}

// TestEmptySides has nets whose fields are empty instead of nil.
func TestEmptySides(t *testing.T) { // R4
	n := api.Net{Sigma: []string{}, States: 1, Arcs: []api.Arc{}, Ends: []api.End{{}}}
	if is, e := Holds(n, []string{}, nil); !is || e != api.OK {
		t.Errorf("Holds: %v %d", is, e)
	}
	if l, more, e := Down(n, []string{}, 1); !same(l, [][]string{{}}) || more || e != api.OK {
		t.Errorf("Down: %v %v %d", l, more, e)
	}
	// nil and empty alphabets are alike.
	if _, e := Either(n, api.Net{States: 1}); e != api.OK {
		t.Errorf("Either: %d", e)
	}
}
