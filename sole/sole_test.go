package sole

import (
	"slices"
	"strings"
	"testing"

	"ablaut/api"
	"ablaut/det"
	"ablaut/rel"
)

// split returns the word of symbols of one byte.
func split(s string) []string {
	if s == "" {
		return nil
	}
	return strings.Split(s, "")
}

// arc returns an arc of a relation.
func arc(from int, above, below string, to int) api.Arc {
	return api.Arc{From: from, In: above, Out: below, To: to}
}

// net returns a relation over `a`, `b`, `c`.
func net(states int, ends []int, arcs ...api.Arc) api.Net {
	n := api.Net{Sigma: split("abc"), States: states, Arcs: arcs}
	for _, q := range ends {
		n.Ends = append(n.Ends, api.End{State: q})
	}
	return n
}

// of returns a relation over `a`, `b`, `c` of the pairs of a list that blanks divide, each two words with `:` between, and each with a way of its own.
func of(s string) api.Net {
	n := net(1, nil)
	at := func(w []string, i int) string {
		if i < len(w) {
			return w[i]
		}
		return ""
	}
	for _, f := range strings.Fields(s) {
		above, below, _ := strings.Cut(f, ":")
		x, y := split(above), split(below)
		q := 0
		for i := range max(len(x), len(y)) {
			n.Arcs = append(n.Arcs, arc(q, at(x, i), at(y, i), n.States))
			q = n.States
			n.States++
		}
		n.Ends = append(n.Ends, api.End{State: q})
	}
	return n
}

// wheels returns a relation that holds words of `a`, but for the empty one: those whose length is a multiple of p with x as often as they have symbols, those of q with y as often.
func wheels(p int, x string, q int, y string) api.Net {
	n := net(1, nil)
	for _, c := range []struct {
		many int
		out  string
	}{{p, x}, {q, y}} {
		rim := n.States
		n.States += c.many
		turn := func(from, i int) {
			in, out := "a", c.out
			for ; len(out) > 1; out = out[1:] {
				n.Arcs = append(n.Arcs, arc(from, in, out[:1], n.States))
				in, from = "", n.States
				n.States++
			}
			n.Arcs = append(n.Arcs, arc(from, in, out, rim+i%c.many))
		}
		turn(0, 1)
		for i := range c.many {
			turn(rim+i, i+1)
		}
		n.Ends = append(n.Ends, api.End{State: rim})
	}
	return n
}

// moved returns a move of a reader.
func moved(from int, in string, to int, out string) api.Move {
	return api.Move{From: from, In: in, To: to, Out: split(out)}
}

// reader returns a reader over `a`, `b`, `c`, of a list of states that blanks divide: `-` for one without a last, and `/` with what is written behind it for others.
func reader(begin, states string, moves ...api.Move) api.Reader {
	r := api.Reader{Sigma: split("abc"), Begin: split(begin), Moves: moves}
	for q, f := range strings.Fields(states) {
		if out, is := strings.CutPrefix(f, "/"); is {
			r.Lasts = append(r.Lasts, api.Last{State: q, Out: split(out)})
		}
		r.States++
	}
	return r
}

func sameReader(a, b api.Reader) bool {
	return slices.Equal(a.Sigma, b.Sigma) && a.States == b.States && slices.Equal(a.Begin, b.Begin) &&
		slices.EqualFunc(a.Moves, b.Moves, func(x, y api.Move) bool {
			return x.From == y.From && x.In == y.In && x.To == y.To && slices.Equal(x.Out, y.Out)
		}) &&
		slices.EqualFunc(a.Lasts, b.Lasts, func(x, y api.Last) bool {
			return x.State == y.State && slices.Equal(x.Out, y.Out)
		})
}

func sameNet(a, b api.Net) bool {
	return a.States == b.States && slices.Equal(a.Sigma, b.Sigma) && slices.Equal(a.Arcs, b.Arcs) && slices.Equal(a.Ends, b.Ends)
}

func TestExample(t *testing.T) { // the chapter's example
	n := of("a:b a:c")
	if is, e := Sole(n); is || e != api.OK {
		t.Errorf("Sole: %v %d", is, e)
	}
	l, there, e := Witness(n)
	if !slices.EqualFunc(l, [][]string{{"a"}, {"b"}, {"c"}}, slices.Equal[[]string]) || !there || e != api.OK {
		t.Errorf("Witness: %q %v %d", l, there, e)
	}
}

// TestSole asks whether relations are functions, and for a witness if they are none.
func TestSole(t *testing.T) { // P6.1
	for i, c := range []struct {
		n    api.Net
		want bool
	}{
		{net(1, nil), true},
		{net(1, []int{0}), true},
		{of("a:b b:b c:"), true},
		{of("a:b a:b"), true},
		{of("a:b a:"), false},
		{of("a:b a:ba"), false},
		{of(":a :b"), false},
		{of("abc:a abc:a abb:b"), true},
		{of("abc:aaa abc:aab"), false},
		// One way writes later what the other one writes.
		{net(4, []int{3}, arc(0, "a", "b", 1), arc(1, "a", "", 3), arc(0, "a", "", 2), arc(2, "a", "b", 3)), true},
		{net(4, []int{3}, arc(0, "a", "b", 1), arc(1, "a", "", 3), arc(0, "a", "", 2), arc(2, "a", "c", 3)), false},
		{net(4, []int{3}, arc(0, "", "b", 1), arc(1, "a", "", 3), arc(0, "a", "", 2), arc(2, "", "b", 3)), true},
		{net(4, []int{3}, arc(0, "", "b", 1), arc(1, "a", "", 3), arc(0, "a", "", 2), arc(2, "", "c", 3)), false},
		{net(3, []int{2}, arc(0, "a", "b", 1), arc(1, "a", "", 2), arc(0, "a", "", 2), arc(2, "a", "b", 2)), true},
		{net(3, []int{2}, arc(0, "a", "b", 1), arc(1, "a", "b", 2), arc(0, "a", "", 2), arc(2, "a", "b", 2)), false},
		// Of two ways that write unlike words one leads nowhere, or they go on by unlike symbols.
		{net(4, []int{3}, arc(0, "a", "b", 1), arc(1, "a", "", 3), arc(0, "a", "c", 2)), true},
		{net(4, []int{3}, arc(0, "a", "b", 1), arc(1, "a", "", 3), arc(0, "a", "c", 2), arc(2, "b", "", 3)), true},
		{net(4, []int{3}, arc(0, "a", "b", 1), arc(1, "a", "", 3), arc(0, "a", "c", 2), arc(2, "b", "", 3), arc(2, "", "", 1)), false},
		// A circle that reads nothing and writes: if it is on a way, some word is held with infinitely many.
		{net(2, []int{1}, arc(0, "a", "", 1), arc(1, "", "b", 1)), false},
		{net(2, []int{1}, arc(0, "a", "", 1), arc(1, "", "", 1)), true},
		{net(2, []int{0}, arc(0, "a", "", 1), arc(1, "", "b", 1)), true},
		{net(2, []int{0}, arc(1, "", "b", 1)), true},
		{net(3, []int{2}, arc(0, "a", "", 1), arc(1, "", "b", 0), arc(1, "b", "c", 2)), true},
		{net(3, []int{2}, arc(0, "", "", 1), arc(1, "", "b", 0), arc(1, "b", "c", 2)), false},
		// Words of 6, 12 .. symbols go round both.
		{wheels(2, "b", 3, "b"), true},
		{wheels(2, "", 3, "b"), false},
		{wheels(2, "bc", 3, "cb"), false},
		{wheels(2, "bb", 3, "bb"), true},
	} {
		is, e := Sole(c.n)
		if is != c.want || e != api.OK {
			t.Errorf("%d %v: Sole %v %d", i, c.n, is, e)
		}
		l, there, e := Witness(c.n)
		if there == c.want || e != api.OK || c.want && len(l) > 0 {
			t.Errorf("%d %v: Witness %q %v %d", i, c.n, l, there, e)
		}
		if there {
			mustWitness(t, c.n, l)
		}
	}
}

// TestSymbols asks about words of one raw text that are unlike.
func TestSymbols(t *testing.T) { // P6.1: words are lists of symbols
	over := func(arcs ...api.Arc) api.Net {
		return api.Net{Sigma: []string{"a", "aa", "b"}, States: 3, Arcs: arcs, Ends: []api.End{{State: 2}}}
	}
	above := over(arc(0, "aa", "b", 2), arc(0, "a", "", 1), arc(1, "a", "a", 2))
	if is, e := Sole(above); !is || e != api.OK {
		t.Errorf("above: %v %d", is, e)
	}
	if is, e := Unambiguous(above); !is || e != api.OK {
		t.Errorf("above: Unambiguous %v %d", is, e)
	}
	below := over(arc(0, "b", "aa", 2), arc(0, "b", "a", 1), arc(1, "", "a", 2))
	l, there, e := Witness(below)
	if !slices.EqualFunc(l, [][]string{{"b"}, {"aa"}, {"a", "a"}}, slices.Equal[[]string]) || !there || e != api.OK {
		t.Errorf("below: %q %v %d", l, there, e)
	}
}

// TestLongWitness asks for witnesses that are as long as words may be, and longer ones.
func TestLongWitness(t *testing.T) { // P6.1
	for i, c := range []struct {
		n    api.Net
		want api.Errno
	}{
		{wheels(5, "b", 12, "c"), api.OK}, // 60 symbols each
		{wheels(7, "b", 9, ""), api.ErrLarge},
		{wheels(7, "b", 9, "c"), api.ErrLarge},
		{wheels(5, "bb", 6, ""), api.OK},       // 30, 60 and 0
		{wheels(5, "bb", 7, ""), api.ErrLarge}, // 35, 70 and 0
		{wheels(5, "", 7, "bb"), api.ErrLarge},
	} {
		if is, e := Sole(c.n); is || e != api.OK {
			t.Errorf("%d: Sole %v %d", i, is, e)
		}
		l, there, e := Witness(c.n)
		if there != (c.want == api.OK) || e != c.want || !there && len(l) > 0 {
			t.Errorf("%d: %q %v %d", i, l, there, e)
		}
		if there {
			mustWitness(t, c.n, l)
		}
	}
}

// TestUnambiguous counts ways.
func TestUnambiguous(t *testing.T) { // P6.1
	ab := arc(0, "a", "b", 1)
	for i, c := range []struct {
		n    api.Net
		want bool
	}{
		{net(1, nil), true},
		{net(1, []int{0}), true},
		{net(2, []int{1}, ab), true},
		// Equal arcs are two, and so are equal ends, if they are on a way.
		{net(2, []int{1}, ab, ab), false},
		{net(2, []int{1, 1}, ab), false},
		{net(1, []int{0, 0}), false},
		{net(2, []int{0}, ab, ab), true},
		{net(3, []int{1, 2, 2}, ab, arc(2, "a", "a", 2), arc(2, "a", "a", 2)), true},
		{net(2, []int{1}, arc(0, "", "", 1), arc(0, "", "", 1)), false},
		// What is written does not make one way of two.
		{net(2, []int{1}, ab, arc(0, "a", "c", 1)), false},
		{net(3, []int{1, 2}, ab, arc(0, "a", "b", 2)), false},
		{net(3, []int{1, 2}, ab, arc(0, "b", "b", 2)), true},
		// Ways that read nothing.
		{net(2, []int{1}, ab, arc(0, "", "", 1)), true},
		{net(2, []int{0, 1}, ab, arc(0, "", "c", 1)), false},
		{net(3, []int{2}, arc(0, "", "", 1), arc(1, "", "", 2), arc(0, "", "", 2)), false},
		{net(3, []int{2}, arc(0, "", "", 1), arc(1, "a", "", 2), arc(0, "a", "", 2)), false},
		{net(3, []int{2}, arc(0, "a", "", 1), arc(1, "", "", 2), arc(0, "a", "", 2)), false},
		{net(4, []int{3}, arc(0, "", "", 1), arc(1, "a", "", 3), arc(0, "a", "", 2), arc(2, "", "", 3)), false},
		{net(4, []int{3}, arc(0, "", "", 1), arc(1, "a", "", 3), arc(0, "", "", 2), arc(2, "b", "", 3)), true},
		// A circle that reads nothing counts if it is on a way.
		{net(1, []int{0}, arc(0, "", "", 0)), false},
		{net(1, []int{0}, arc(0, "", "b", 0)), false},
		{net(1, nil, arc(0, "", "b", 0)), true},
		{net(2, []int{0}, arc(0, "", "", 1), arc(1, "", "", 0)), false},
		{net(2, []int{1}, ab, arc(1, "", "", 0)), true},
		{net(2, []int{1}, ab, arc(1, "", "", 1)), false},
		{net(2, []int{0}, ab, arc(1, "", "", 1)), true},
		{net(2, []int{0}, arc(1, "", "", 1), arc(1, "", "", 0)), true},
		{net(3, []int{2}, arc(0, "a", "", 1), arc(1, "b", "", 2), arc(2, "", "", 0)), true},
		// Two ways for words of 6, 12 .. symbols only.
		{wheels(2, "b", 3, "b"), false},
		{wheels(2, "b", 2, "b"), false},
		{net(3, []int{2}, arc(0, "a", "", 0), arc(0, "a", "", 1), arc(1, "b", "", 2)), true},
		{net(2, []int{1}, arc(0, "a", "", 0), arc(0, "a", "", 1), arc(1, "a", "", 1)), false},
	} {
		if is, e := Unambiguous(c.n); is != c.want || e != api.OK {
			t.Errorf("%d %v: %v %d", i, c.n, is, e)
		}
	}
}

// TestSame asks whether functions hold the same pairs.
func TestSame(t *testing.T) { // P6.2
	late := net(4, []int{3}, arc(0, "a", "", 1), arc(1, "a", "", 2), arc(2, "", "b", 3))
	for i, c := range []struct {
		a, b api.Net
		want bool
		e    api.Errno
	}{
		{net(1, nil), net(3, []int{2}, arc(0, "a", "a", 1)), true, api.OK},
		{net(1, nil), of(":"), false, api.OK},
		{of("a:b b:c"), of("b:c a:b b:c"), true, api.OK},
		{of("a:b b:c"), of("a:b b:b"), false, api.OK},
		{of("a:b b:c"), of("a:b"), false, api.OK},
		{of("a:b b:c"), of("a:b b:c c:"), false, api.OK},
		{of("a:b"), of("a:bb"), false, api.OK},
		{of("aa:b"), late, true, api.OK},
		{of("aa:c"), late, false, api.OK},
		{of("a:b"), of("b:b"), false, api.OK},
		{wheels(2, "b", 3, "b"), wheels(3, "b", 2, "b"), true, api.OK},
		{wheels(2, "b", 3, "b"), wheels(2, "b", 2, "b"), false, api.OK},
		{wheels(2, "b", 3, "b"), wheels(2, "c", 3, "c"), false, api.OK},
		{of("a:b a:c"), of("a:b"), false, api.ErrRule},
		{of("a:b"), of("a:b a:c"), false, api.ErrRule},
		{of("a:b a:c"), of("a:b a:c"), false, api.ErrRule},
	} {
		if is, e := Same(c.a, c.b); is != c.want || e != c.e {
			t.Errorf("%d %v, %v: %v %d", i, c.a, c.b, is, e)
		}
		if is, e := Same(c.b, c.a); is != c.want || e != c.e {
			t.Errorf("%d %v, %v: %v %d", i, c.b, c.a, is, e)
		}
	}
}

// counter returns a function of 8 states that copies all words but for some, of which the first one has 64 symbols. Each state but 1 is a lamp, and the greatest one, which is 0, is lit at first. Each symbol puts one lamp out and lights those below it; from one of these that was lit already it leads to 1, from where all words go on. Where no lamp is lit no way is left.
func counter() api.Net {
	n := api.Net{Sigma: split("abcdefg"), States: 8}
	lamp := func(i int) int { return (i + 2) % 8 }
	for i := range 7 {
		n.Ends = append(n.Ends, api.End{State: lamp(i)})
		s := n.Sigma[i]
		for j := range 7 {
			switch {
			case j < i:
				n.Arcs = append(n.Arcs, arc(lamp(i), s, s, lamp(j)), arc(lamp(j), s, s, 1))
			case j > i:
				n.Arcs = append(n.Arcs, arc(lamp(j), s, s, lamp(j)))
			}
		}
		n.Arcs = append(n.Arcs, arc(1, s, s, 1))
	}
	n.Ends = append(n.Ends, api.End{State: 1})
	return n
}

// TestSameOfLong compares functions of which the first word that is above in one only is longer than words may be.
func TestSameOfLong(t *testing.T) { // P6.2: never ErrLarge for at most 8 states
	a, b := counter(), copies("abcdefg")
	ua, _ := rel.Upper(a)
	ub, _ := rel.Upper(b)
	if _, _, e := det.Same(ua, ub); e != api.ErrLarge {
		t.Fatalf("the first word is short: %d", e)
	}
	for _, c := range []struct {
		a, b api.Net
		want bool
	}{{a, b, false}, {b, a, false}, {a, a, true}} {
		if is, e := Same(c.a, c.b); is != c.want || e != api.OK {
			t.Errorf("%v %d", is, e)
		}
	}
}
