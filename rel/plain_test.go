package rel

import (
	"maps"
	"slices"
	"strings"
	"testing"

	"ablaut/api"
	"ablaut/auto"
)

// A held is a pair of words of symbols of one byte, as texts.
type held struct{ x, y string }

// reach returns all that is come to from a begin by steps.
func reach[T comparable](begin T, steps func(at T, to func(T))) map[T]bool {
	seen := map[T]bool{begin: true}
	todo := []T{begin}
	for len(todo) > 0 {
		at := todo[len(todo)-1]
		todo = todo[:len(todo)-1]
		steps(at, func(next T) {
			if !seen[next] {
				seen[next] = true
				todo = append(todo, next)
			}
		})
	}
	return seen
}

func isEnd(n api.Net, q int) bool {
	return slices.ContainsFunc(n.Ends, func(d api.End) bool { return d.State == q })
}

// pairsOf returns the pairs that are held, of at most so many symbols above and below, by going all ways.
func pairsOf(n api.Net, above, below int) map[held]bool {
	type at struct {
		q int
		held
	}
	all := map[held]bool{}
	for p := range reach(at{}, func(p at, to func(at)) {
		for _, a := range n.Arcs {
			if a.From == p.q && len(p.x+a.In) <= above && len(p.y+a.Out) <= below {
				to(at{a.To, held{p.x + a.In, p.y + a.Out}})
			}
		}
	}) {
		if isEnd(n, p.q) {
			all[p.held] = true
		}
	}
	return all
}

// abovesOf returns the words above of at most so many symbols, whatever is below.
func abovesOf(n api.Net, most int) map[string]bool {
	n = auto.Copy(n)
	for i := range n.Arcs {
		n.Arcs[i].Out = ""
	}
	all := map[string]bool{}
	for p := range pairsOf(n, most, 0) {
		all[p.x] = true
	}
	return all
}

// composedOf returns the pairs of a composition, of at most so many symbols above and below, whatever is between: b takes each symbol between after a has given it, and before a gives another one.
func composedOf(a, b api.Net, above, below int) map[held]bool {
	type at struct {
		p, q  int
		given string
		held
	}
	all := map[held]bool{}
	for s := range reach(at{}, func(s at, to func(at)) {
		for _, x := range a.Arcs {
			next := at{x.To, s.q, x.Out, held{s.x + x.In, s.y}}
			if x.From == s.p && s.given == "" && len(next.x) <= above {
				to(next)
			}
		}
		for _, y := range b.Arcs {
			next := at{s.p, y.To, "", held{s.x, s.y + y.Out}}
			if y.In == "" {
				next.given = s.given
			}
			if y.From == s.q && (y.In == "" || y.In == s.given) && len(next.y) <= below {
				to(next)
			}
		}
	}) {
		if s.given == "" && isEnd(a, s.p) && isEnd(b, s.q) {
			all[s.held] = true
		}
	}
	return all
}

// chainedOf returns the pairs of a with those of b behind them, of at most so many symbols on each side.
func chainedOf(a, b map[held]bool, most int) map[held]bool {
	all := map[held]bool{}
	for p := range a {
		for q := range b {
			if len(p.x+q.x) <= most && len(p.y+q.y) <= most {
				all[held{p.x + q.x, p.y + q.y}] = true
			}
		}
	}
	return all
}

// priorOf returns the pairs of a, and those of b whose word above is none of these.
func priorOf(a, b map[held]bool, above map[string]bool) map[held]bool {
	all := maps.Clone(a)
	for p := range b {
		if !above[p.x] {
			all[p] = true
		}
	}
	return all
}

// texts returns all words over `a`, `b` of at most so many symbols, in shortlex order.
func texts(most int) []string {
	l := []string{""}
	for i := 0; i < len(l) && len(l[i]) < most; i++ {
		l = append(l, l[i]+"a", l[i]+"b")
	}
	return l
}

// dice returns a function that returns numbers from 0 to n - 1, the same ones in each run.
func dice(seed uint32) func(n int) int {
	return func(n int) int {
		seed = seed*1664525 + 1013904223
		return int(seed>>16) % n
	}
}

// made returns nets over `a`, `b` of up to so many states, all sorts of them, the same ones in each run; alike ones have the same symbols above and below.
func made(many, states int, alike bool, seed uint32) []api.Net {
	roll := dice(seed)
	symbol := func() string { return []string{"", "a", "b", "a", "b"}[roll(5)] }
	var l []api.Net
	for range many {
		n := api.Net{Sigma: word("ab"), States: 1 + roll(states)}
		for range roll(2*states + 2) {
			a := api.Arc{From: roll(n.States), In: symbol(), Out: symbol(), To: roll(n.States)}
			if alike {
				a.Out = a.In
			}
			n.Arcs = append(n.Arcs, a)
		}
		for range roll(3) {
			n.Ends = append(n.Ends, api.End{State: roll(n.States)})
		}
		l = append(l, n)
	}
	return l
}

// list writes pairs in order.
func list(all map[held]bool) string {
	var l []string
	for p := range all {
		l = append(l, p.x+":"+p.y)
	}
	slices.Sort(l)
	return strings.Join(l, " ")
}

// mustHold fails if a relation over `a`, `b` holds not just these pairs, of at most so many symbols on each side.
func mustHold(t *testing.T, what string, n api.Net, e api.Errno, want map[held]bool, most int) {
	t.Helper()
	if e != api.OK || Validate(n) != api.OK || !slices.Equal(n.Sigma, word("ab")) {
		t.Fatalf("%s: error %d, net %v", what, e, n)
	}
	if got := pairsOf(n, most, most); !maps.Equal(got, want) {
		t.Fatalf("%s: %v holds %s, not %s", what, n, list(got), list(want))
	}
}

// TestHoldsOfMany compares Holds, Down, Up, Image, Upper and Lower with the ways of many small nets.
func TestHoldsOfMany(t *testing.T) { // P5.1, P5.2, P5.4
	for i, n := range made(600, 4, false, 1) {
		all := pairsOf(n, 3, 3)
		for _, x := range texts(3) {
			for _, y := range texts(3) {
				if is, e := Holds(n, word(x), word(y)); is != all[held{x, y}] || e != api.OK {
					t.Fatalf("net %d %v: Holds of %q, %q: %v %d", i, n, x, y, is, e)
				}
			}
		}
		upper, e := Upper(n)
		mustAccept(t, "Upper", upper, e, abovesOf(n, 3))
		lower, e := Lower(n)
		turned, e2 := Inverse(n)
		mustAccept(t, "Lower", lower, e, abovesOf(turned, 3))
		back := map[held]bool{}
		for p := range all {
			back[held{p.y, p.x}] = true
		}
		mustHold(t, "Inverse", turned, e2, back, 3)
		trim, e := Trim(n)
		mustHold(t, "Trim", trim, e, all, 3)
		mustBeTrim(t, trim)
	}
}

// mustAccept fails if an acceptor over `a`, `b` accepts not just these words, of at most 3 symbols.
func mustAccept(t *testing.T, what string, n api.Net, e api.Errno, want map[string]bool) {
	t.Helper()
	for _, x := range texts(3) {
		if is, e2 := auto.Accepts(n, word(x)); is != want[x] || e != api.OK || e2 != api.OK {
			t.Fatalf("%s: %v: %q: %v %d %d", what, n, x, is, e, e2)
		}
	}
}

// mustBeTrim fails if a state, but 0, is on no way from 0 to an end.
func mustBeTrim(t *testing.T, n api.Net) {
	t.Helper()
	from := func(begin int) map[int]bool {
		return reach(begin, func(q int, to func(int)) {
			for _, a := range n.Arcs {
				if a.From == q {
					to(a.To)
				}
			}
		})
	}
	begun := from(0)
	for q := 1; q < n.States; q++ {
		ended := false
		for p := range from(q) {
			ended = ended || isEnd(n, p)
		}
		if !begun[q] || !ended {
			t.Fatalf("state %d of %v is on no way", q, n)
		}
	}
}

// TestDownOfMany compares what is told of words below with what is told of the acceptor of these words.
func TestDownOfMany(t *testing.T) { // P5.4
	long := strings.Repeat("ab", api.MaxWord/2)
	for i, n := range made(500, 5, false, 2) {
		turned, _ := Inverse(n)
		for _, x := range append(texts(2), "abba", long) {
			m, e := Image(n, word(x))
			if e != api.OK || auto.Validate(m) != api.OK || !slices.Equal(m.Sigma, n.Sigma) {
				t.Fatalf("net %d %v: Image of %q: %v %d", i, n, x, m, e)
			}
			for _, most := range []int{1, 2, 7, api.MaxMost} {
				want, wantMore, wantE := auto.Words(m, most)
				got, more, e := Down(n, word(x), most)
				if !same(got, want) || more != wantMore || e != wantE {
					t.Fatalf("net %d %v: Down of %q: %v %v %d, not %v %v %d", i, n, x, got, more, e, want, wantMore, wantE)
				}
				got, more, e = Up(turned, word(x), most)
				if !same(got, want) || more != wantMore || e != wantE {
					t.Fatalf("net %d %v: Up of %q: %v %v %d, not %v %v %d", i, turned, x, got, more, e, want, wantMore, wantE)
				}
			}
		}
		for _, x := range texts(2) {
			m, _ := Image(n, word(x))
			all := pairsOf(n, 2, 3)
			for _, y := range texts(3) {
				if is, e := auto.Accepts(m, word(y)); is != all[held{x, y}] || e != api.OK {
					t.Fatalf("net %d %v: Image of %q: %q: %v %d", i, n, x, y, is, e)
				}
			}
		}
	}
}

// TestSetsOfMany compares what is put together of many small nets with what is put together of their pairs.
func TestSetsOfMany(t *testing.T) { // P5.2
	l := made(800, 4, false, 3)
	for i := 0; i+1 < len(l); i += 2 {
		a, b := l[i], l[i+1]
		pa, pb := pairsOf(a, 2, 2), pairsOf(b, 2, 2)
		n, e := Either(a, b)
		both := maps.Clone(pa)
		maps.Copy(both, pb)
		mustHold(t, "Either", n, e, both, 2)
		n, e = Chain(a, b)
		mustHold(t, "Chain", n, e, chainedOf(pa, pb, 2), 2)
		n, e = Star(a)
		star := map[held]bool{{}: true}
		for many := 0; many < len(star); {
			many = len(star)
			maps.Copy(star, chainedOf(star, pa, 2))
		}
		mustHold(t, "Star", n, e, star, 2)
	}
	l = made(400, 4, true, 4)
	for i := 0; i+1 < len(l); i += 2 {
		a, b := l[i], l[i+1]
		n, e := Cross(a, b)
		cross, copies := map[held]bool{}, map[held]bool{}
		for x := range abovesOf(a, 2) {
			copies[held{x, x}] = true
			for y := range abovesOf(b, 2) {
				cross[held{x, y}] = true
			}
		}
		mustHold(t, "Cross", n, e, cross, 2)
		n, e = Copies(a)
		mustHold(t, "Copies", n, e, copies, 2)
	}
}

// TestCompositionsOfMany compares compositions of many small nets with what is come to by both at once.
func TestCompositionsOfMany(t *testing.T) { // P5.2
	l := made(1600, 3, false, 5)
	for i := 0; i+1 < len(l); i += 2 {
		a, b := l[i], l[i+1]
		pairs := composedOf(a, b, 2, 2)
		n, e := Compose(a, b)
		mustHold(t, "Compose", n, e, pairs, 2)
		above := map[string]bool{}
		for p := range composedOf(a, silent(b), 2, 0) {
			above[p.x] = true
		}
		n, e = Lenient(a, b)
		mustHold(t, "Lenient", n, e, priorOf(pairs, pairsOf(a, 2, 2), above), 2)
		n, e = Prior(a, b)
		mustHold(t, "Prior", n, e, priorOf(pairsOf(a, 2, 2), pairsOf(b, 2, 2), abovesOf(a, 2)), 2)
	}
}

// silent returns a relation with nothing below.
func silent(n api.Net) api.Net {
	n = auto.Copy(n)
	for i := range n.Arcs {
		n.Arcs[i].Out = ""
	}
	return n
}
