package sole

import (
	"maps"
	"slices"
	"strings"
	"testing"

	"ablaut/api"
	"ablaut/rel"
)

// dice returns a function that returns numbers from 0 to n - 1, the same ones in each run.
func dice(seed uint32) func(n int) int {
	return func(n int) int {
		seed = seed*1664525 + 1013904223
		return int(seed>>16) % n
	}
}

// randomNets returns nets over `a`, `b` of up to so many states, and twice as many arcs, the same ones in each run.
func randomNets(many, states int, seed uint32) []api.Net {
	roll := dice(seed)
	symbol := func() string { return []string{"", "a", "b", "a", "b"}[roll(5)] }
	var l []api.Net
	for range many {
		n := api.Net{Sigma: split("ab"), States: 1 + roll(states)}
		for range roll(2*states + 1) {
			n.Arcs = append(n.Arcs, arc(roll(n.States), symbol(), symbol(), roll(n.States)))
		}
		for range 1 + roll(2) {
			n.Ends = append(n.Ends, api.End{State: roll(n.States)})
		}
		l = append(l, n)
	}
	return l
}

// randomForks returns functions over `a` to `d`: two readers, of up to so many states, of texts of `a`, `b`, one of those with `c` behind them and one of those with `d`.
func randomForks(many, states int, seed uint32) []api.Net {
	roll := dice(seed)
	out := func() string { return []string{"", "a", "b"}[roll(3)] }
	var l []api.Net
	for range many {
		n := api.Net{Sigma: split("abcd"), States: 2, Ends: []api.End{{State: 1}}}
		for _, last := range []string{"c", "d"} {
			begin, own := n.States, 1+roll(states)
			n.States += own
			n.Arcs = append(n.Arcs, arc(0, "", out(), begin))
			for q := range own {
				for _, x := range []string{"a", "b"} {
					if roll(3) > 0 {
						n.Arcs = append(n.Arcs, arc(begin+q, x, out(), begin+roll(own)))
					}
				}
				if roll(2) > 0 {
					n.Arcs = append(n.Arcs, arc(begin+q, last, "", 1))
				}
			}
		}
		l = append(l, n)
	}
	return l
}

// randomReaders returns readers over `a`, `b` of up to so many states, the same ones in each run.
func randomReaders(many, states int, seed uint32) []api.Reader {
	roll := dice(seed)
	text := func() []string {
		return split([]string{"", "a", "b", "a", "b", "ab", "ba", "aa"}[roll(8)])
	}
	var l []api.Reader
	for range many {
		r := api.Reader{Sigma: split("ab"), States: 1 + roll(states), Begin: text()}
		for q := range r.States {
			for _, s := range r.Sigma {
				if roll(4) > 0 {
					r.Moves = append(r.Moves, api.Move{From: q, In: s, To: roll(r.States), Out: text()})
				}
			}
			if roll(2) > 0 {
				r.Lasts = append(r.Lasts, api.Last{State: q, Out: text()})
			}
		}
		l = append(l, r)
	}
	return l
}

// texts returns all texts of `a`, `b` of at most so many letters, in shortlex order.
func texts(most int) []string { return textsOf(split("ab"), most) }

// textsOf returns all texts of some letters.
func textsOf(sigma []string, most int) []string {
	l := []string{""}
	for i := 0; len(l[i]) < most; i++ {
		for _, s := range sigma {
			l = append(l, l[i]+s)
		}
	}
	return l
}

// below returns the texts that a small relation, which is said to be a function, holds with a text, by going all its ways.
func below(n api.Net, x string) []string {
	n, _ = rel.Trim(n) // where no way leads on, circles may write without an end
	type at struct {
		q, i int
		y    string
	}
	all := map[string]bool{}
	for p := range reach(func(p at, add func(at)) {
		for _, a := range n.Arcs {
			if a.From == p.q && strings.HasPrefix(x[p.i:], a.In) {
				add(at{a.To, p.i + len(a.In), p.y + a.Out})
			}
		}
	}, at{}) {
		if p.i == len(x) && slices.Contains(n.Ends, api.End{State: p.q}) {
			all[p.y] = true
		}
	}
	return slices.Sorted(maps.Keys(all))
}

// makes returns what a reader makes of all texts of at most so many letters of which it makes something.
func makes(t *testing.T, r api.Reader, most int) map[string]string {
	t.Helper()
	all := map[string]string{}
	for _, x := range texts(most) {
		y, is, e := Make(r, split(x))
		if e != api.OK {
			t.Fatalf("%v: Make of %q: %d", r, x, e)
		}
		if is {
			all[x] = strings.Join(y, "")
		}
	}
	return all
}

// TestSoleOfMany holds what is told of many small nets against the words below.
func TestSoleOfMany(t *testing.T) { // P6.1
	functions := 0
	for i, n := range randomNets(1500, 4, 1) {
		is, e := Sole(n)
		l, there, e2 := Witness(n)
		if e != api.OK || e2 != api.OK || there == is {
			t.Fatalf("net %d %v: Sole %v %d, Witness %v %v %d", i, n, is, e, l, there, e2)
		}
		if !is {
			mustWitness(t, n, l)
			continue
		}
		functions++
		for _, x := range texts(5) {
			if y := below(n, x); len(y) > 1 {
				t.Fatalf("net %d %v: Sole, but %q is held with %q", i, n, x, y)
			}
		}
	}
	if functions < 400 || functions > 1100 {
		t.Errorf("%d functions", functions)
	}
}

// mustWitness fails if three words do not show that a relation is no function.
func mustWitness(t *testing.T, n api.Net, l [][]string) {
	t.Helper()
	if len(l) != 3 {
		t.Fatalf("%v: Witness %q", n, l)
	}
	for _, y := range l[1:] {
		if is, e := rel.Holds(n, l[0], y); !is || e != api.OK {
			t.Fatalf("%v: Witness %q: %q: %v %d", n, l, y, is, e)
		}
	}
	if len(l[1]) > len(l[2]) || len(l[1]) == len(l[2]) && slices.Compare(l[1], l[2]) >= 0 {
		t.Fatalf("%v: Witness %q: not in order", n, l)
	}
}

// waysOf returns for each text how many lists of at most so many arcs are ways of it, each with its end.
func waysOf(n api.Net, arcs, letters int) map[string]int {
	type at struct {
		q int
		x string
	}
	ends := map[int]int{}
	for _, d := range n.Ends {
		ends[d.State]++
	}
	all := map[string]int{}
	now := map[at]int{{}: 1}
	for range arcs + 1 {
		next := map[at]int{}
		for p, many := range now {
			all[p.x] = min(2, all[p.x]+many*ends[p.q])
			for _, a := range n.Arcs {
				if a.From == p.q && len(p.x+a.In) <= letters {
					next[at{a.To, p.x + a.In}] = min(2, next[at{a.To, p.x + a.In}]+many)
				}
			}
		}
		now = next
	}
	return all
}

// TestUnambiguousOfMany counts the ways of many small nets.
func TestUnambiguousOfMany(t *testing.T) { // P6.1
	yes := 0
	for i, n := range randomNets(1500, 3, 2) {
		is, e := Unambiguous(n)
		want := true
		for _, many := range waysOf(n, 12, 7) {
			want = want && many < 2
		}
		if is != want || e != api.OK {
			t.Fatalf("net %d %v: %v %d", i, n, is, e)
		}
		if is {
			yes++
		}
	}
	if yes < 300 || yes > 1200 {
		t.Errorf("%d are unambiguous", yes)
	}
}

// a stand is what is left to write at each state behind a word.
type stand map[int]string

// standsOf returns how many unlike stands there are behind all words, if they are at most most: taken by themselves, without asking whether ways are twins.
func standsOf(n api.Net, most int) (int, bool) {
	n, _ = rel.Trim(n)
	closed := func(s stand) stand {
		for more := true; more; {
			more = false
			for _, a := range n.Arcs {
				out, here := s[a.From]
				if _, there := s[a.To]; a.In == "" && here && !there {
					s[a.To], more = out+a.Out, true
				}
			}
		}
		for {
			first := map[string]bool{}
			for _, out := range s {
				first[out[:min(1, len(out))]] = true
			}
			if len(first) != 1 || first[""] {
				return s
			}
			for q, out := range s {
				s[q] = out[1:]
			}
		}
	}
	l := []stand{closed(stand{0: ""})}
	for i := 0; i < len(l) && len(l) <= most; i++ {
		for _, x := range n.Sigma {
			next := stand{}
			for _, a := range n.Arcs {
				if out, here := l[i][a.From]; here && a.In == x {
					next[a.To] = out + a.Out
				}
			}
			next = closed(next)
			if len(next) > 0 && !slices.ContainsFunc(l, func(s stand) bool { return maps.Equal(s, next) }) {
				l = append(l, next)
			}
		}
	}
	return len(l), len(l) <= most
}

// TestReadOfMany holds the readers of many small nets against the words below.
func TestReadOfMany(t *testing.T) { // P6.4
	const most = 200 // nets of which there is a reader have far fewer stands
	yes, no := 0, 0
	for i, n := range append(randomNets(1000, 4, 3), randomForks(800, 3, 5)...) {
		r, is, e := Read(n)
		if sole, _ := Sole(n); !sole {
			if is || e != api.ErrRule || !sameReader(r, api.Reader{}) {
				t.Fatalf("net %d %v: %v %v %d", i, n, r, is, e)
			}
			continue
		}
		if e != api.OK {
			t.Fatalf("net %d %v: error %d", i, n, e)
		}
		if many, finite := standsOf(n, most); finite != is {
			t.Fatalf("net %d %v: %v, but %d stands", i, n, is, many)
		}
		if !is {
			no++
			continue
		}
		yes++
		mustStandFor(t, r, n)
	}
	if yes < 500 || no < 100 {
		t.Errorf("%d with a reader, %d without one", yes, no)
	}
}

// mustStandFor fails if a reader is none, or makes something else of a text than a relation holds with it.
func mustStandFor(t *testing.T, r api.Reader, n api.Net) {
	t.Helper()
	if e := Validate(r); e != api.OK || !slices.Equal(r.Sigma, n.Sigma) {
		t.Fatalf("%v: %v: error %d", n, r, e)
	}
	for _, x := range append(textsOf(n.Sigma, 4), "aabaabb", "abbabac", "babaabd", "aaaaaac", "bbbbbbb") {
		y, is, e := Make(r, split(x))
		l := below(n, x)
		if e != api.OK || is != (len(l) > 0) || is && (len(l) != 1 || l[0] != strings.Join(y, "")) {
			t.Fatalf("%v: of %q %v makes %q %v %d, not %q", n, x, r, y, is, e, l)
		}
	}
}

// TestSameOfMany compares functions with others, and with the same ones made in another way.
func TestSameOfMany(t *testing.T) { // P6.2
	var l []api.Net
	for _, n := range randomNets(900, 3, 4) {
		if is, _ := Sole(n); is && len(below(n, "a")) > 0 {
			l = append(l, n)
		}
	}
	yes := 0
	for i, a := range l {
		for _, b := range l[i:min(i+6, len(l))] {
			is, e := Same(a, b)
			want := true
			for _, x := range texts(7) {
				want = want && slices.Equal(below(a, x), below(b, x))
			}
			if is != want || e != api.OK {
				t.Fatalf("%v, %v: %v %d", a, b, is, e)
			}
			if is {
				yes++
			}
		}
		r, is, _ := Read(a)
		if !is {
			continue
		}
		n, e := Net(r)
		if e != api.OK || n.States > 40 {
			continue
		}
		if is, e := Same(a, n); !is || e != api.OK {
			t.Fatalf("%v, %v: %v %d", a, n, is, e)
		}
	}
	if len(l) < 50 || yes < len(l)+20 {
		t.Errorf("%d functions, %d times the same", len(l), yes)
	}
}

// shares returns what all texts begin with in common.
func shares(l map[string]string) string {
	first := true
	var all string
	for _, s := range l {
		if first {
			first, all = false, s
		}
		for !strings.HasPrefix(s, all) {
			all = all[:len(all)-1]
		}
	}
	return all
}

// earlyOf returns the reader with the fewest states that writes early, by what is made of all texts of at most 9 letters: two of at most 3 lead to one state if the same is made of all of at most 6 behind them, but for what is sure to be written ahead of these.
func earlyOf(made map[string]string) api.Reader {
	behind := func(u string) (map[string]string, string) {
		rest := map[string]string{}
		for _, v := range texts(6) {
			if y, is := made[u+v]; is {
				rest[v] = y
			}
		}
		sure := shares(rest)
		for v, y := range rest {
			rest[v] = y[len(sure):]
		}
		return rest, sure
	}
	rest, sure := behind("")
	r := api.Reader{Sigma: split("ab"), Begin: split(sure), States: 1}
	words, rests, sures := []string{""}, []map[string]string{rest}, []string{sure}
	for i := 0; i < len(words); i++ {
		for _, s := range []string{"a", "b"} {
			rest, sure := behind(words[i] + s)
			if len(rest) == 0 {
				continue
			}
			to := slices.IndexFunc(rests, func(m map[string]string) bool { return maps.Equal(m, rest) })
			if to < 0 {
				to = len(rests)
				words, rests, sures = append(words, words[i]+s), append(rests, rest), append(sures, sure)
				r.States++
			}
			r.Moves = append(r.Moves, api.Move{From: i, In: s, To: to, Out: split(sure[len(sures[i]):])})
		}
		if y, is := rests[i][""]; is {
			r.Lasts = append(r.Lasts, api.Last{State: i, Out: split(y)})
		}
	}
	return r
}

// TestEarlyOfMany makes the reader out of what is made of all texts.
func TestEarlyOfMany(t *testing.T) { // P6.5
	states := [4]int{}
	for i, r := range randomReaders(600, 3, 7) {
		want := earlyOf(makes(t, r, 9))
		got, e := Early(r)
		if !sameReader(got, want) || e != api.OK {
			t.Fatalf("%d %v: %v, not %v %d", i, r, got, want, e)
		}
		states[got.States]++
	}
	if states[1] < 30 || states[2] < 30 || states[3] < 30 {
		t.Error(states)
	}
}

// TestEqualOfMany compares what is made of all texts.
func TestEqualOfMany(t *testing.T) { // P6.5
	l := randomReaders(700, 2, 8)
	yes, no := 0, 0
	check := func(a, b api.Reader) {
		t.Helper()
		same, x, e := Equal(a, b)
		ma, mb := makes(t, a, 6), makes(t, b, 6)
		want := "-"
		for _, x := range texts(6) {
			y, inA := ma[x]
			z, inB := mb[x]
			if inA != inB || y != z {
				want = x
				break
			}
		}
		if same != (want == "-") || strings.Join(x, "") != strings.Trim(want, "-") || e != api.OK {
			t.Fatalf("%v, %v: %v %q %d, not %q", a, b, same, x, e, want)
		}
		if same {
			yes++
		} else {
			no++
		}
	}
	roll := dice(9)
	for i, a := range l {
		check(a, l[(i+1)%len(l)])
		b, _ := Early(a)
		check(a, b)
		// One thing that is written is another one.
		switch k := roll(3); {
		case k == 0 && len(b.Moves) > 0:
			b.Moves[roll(len(b.Moves))].Out = split("ab")
		case k == 1 && len(b.Lasts) > 0:
			b.Lasts[roll(len(b.Lasts))].Out = split("b")
		default:
			b.Begin = append(b.Begin, "a")
		}
		check(a, b)
	}
	if yes < 500 || no < 500 {
		t.Errorf("%d times the same, %d times not", yes, no)
	}
}
