package sole

import (
	"math"
	"slices"
	"strconv"
	"strings"
	"testing"

	"ablaut/api"
	"ablaut/auto"
	"ablaut/rel"
)

// ones returns the symbols of one byte, ascending, at most n.
func ones(n int) []string {
	var l []string
	for c := 33; c <= 126 && len(l) < n; c++ {
		if c != '<' && c != '>' {
			l = append(l, string(rune(c)))
		}
	}
	return l
}

// outcome is what a call returned: whether its other results are zero, and its error.
type outcome struct {
	zero bool
	e    api.Errno
}

func ofBool(is bool, e api.Errno) outcome { return outcome{!is, e} }

func ofWords(l [][]string, is bool, e api.Errno) outcome { return outcome{len(l) == 0 && !is, e} }

func ofWord(w []string, is bool, e api.Errno) outcome { return outcome{len(w) == 0 && !is, e} }

func ofNet(n api.Net, e api.Errno) outcome { return outcome{sameNet(n, api.Net{}), e} }

func ofReader(r api.Reader, e api.Errno) outcome { return outcome{sameReader(r, api.Reader{}), e} }

func ofEqual(is bool, w []string, e api.Errno) outcome { return outcome{len(w) == 0 && !is, e} }

// ofRelation calls all functions of a relation.
func ofRelation(n api.Net) map[string]outcome {
	r, is, e := Read(n)
	return map[string]outcome{
		"Sole":        ofBool(Sole(n)),
		"Witness":     ofWords(Witness(n)),
		"Unambiguous": ofBool(Unambiguous(n)),
		"Read":        {sameReader(r, api.Reader{}) && !is, e},
		"Same":        ofBool(Same(n, n)),
	}
}

// ofReading calls all functions of a reader.
func ofReading(r api.Reader) map[string]outcome {
	return map[string]outcome{
		"Validate": {true, Validate(r)},
		"Make":     ofWord(Make(r, nil)),
		"Net":      ofNet(Net(r)),
		"Early":    ofReader(Early(r)),
		"Equal":    ofEqual(Equal(r, r)),
	}
}

// refused fails if one of the calls returned another error, or a result with it.
func refused(t *testing.T, what string, calls map[string]outcome, want api.Errno) {
	t.Helper()
	for name, got := range calls {
		if got != (outcome{true, want}) {
			t.Errorf("%s: %s: %v, not error %d", what, name, got, want)
		}
	}
}

// badNets are names of nets that are no relations, with their errors.
func badNets() map[string]api.Errno {
	return map[string]api.Errno{
		"large": api.ErrLarge, "sigma": api.ErrLarge, "alphabet": api.ErrArg, "none": api.ErrArg,
		"state": api.ErrArg, "symbol": api.ErrArg, "cost": api.ErrType, "end": api.ErrType,
	}
}

// badNet returns one of these.
func badNet(what string) api.Net {
	n := net(2, []int{1}, arc(0, "a", "b", 1))
	switch what {
	case "large":
		n.States = api.MaxStates + 1
	case "sigma":
		n.Sigma = ones(api.MaxSigma + 1)
	case "alphabet":
		n.Sigma = split("ba")
	case "none":
		n.States = 0
	case "state":
		n.Arcs[0].To = 2
	case "symbol":
		n.Arcs[0].Out = "d"
	case "cost":
		n.Arcs[0].Cost = 1
	case "end":
		n.Ends[0].Cost = -1
	}
	return n
}

// TestErrorsOfNets asks for what is no relation, or too large.
func TestErrorsOfNets(t *testing.T) { // P6.1, P6.2, P6.4, R1, R2, R3
	good, wide := of("a:b"), net(41, []int{40})
	other := api.Net{Sigma: split("ab"), States: 1}
	for what, want := range badNets() {
		n := badNet(what)
		if e := rel.Validate(n); e != want {
			t.Fatalf("%s: %d", what, e)
		}
		refused(t, what, ofRelation(n), want)
		for name, l := range map[string][2]api.Net{"behind": {good, n}, "ahead": {n, good}, "behind what is large": {wide, n}, "of another alphabet": {other, n}} {
			refused(t, what+" "+name, map[string]outcome{"Same": ofBool(Same(l[0], l[1]))}, want)
		}
	}
	for what, l := range map[string]struct {
		a, b api.Net
		want api.Errno
	}{
		"two bad ones":              {badNet("none"), badNet("large"), api.ErrArg},
		"two bad ones, turned":      {badNet("large"), badNet("none"), api.ErrLarge},
		"the first one large":       {wide, good, api.ErrLarge},
		"the second one large":      {good, wide, api.ErrLarge},
		"large, of other alphabets": {wide, other, api.ErrLarge},
		"of other alphabets":        {good, other, api.ErrFit},
		"no function, either":       {of("a:b a:c"), other, api.ErrFit},
		"no functions":              {of("a:b a:c"), good, api.ErrRule},
	} {
		refused(t, what, map[string]outcome{"Same": ofBool(Same(l.a, l.b))}, l.want)
	}
	refused(t, "41 states", ofRelation(wide), api.ErrLarge)
	for name, got := range ofRelation(net(40, []int{39}, arc(0, "a", "b", 39))) {
		if got.e != api.OK {
			t.Errorf("40 states: %s: %v", name, got)
		}
	}
}

// badReaders are changes of a reader by which it is none, with their errors.
func badReaders() []struct {
	change func(r *api.Reader)
	want   api.Errno
} {
	type bad = struct {
		change func(r *api.Reader)
		want   api.Errno
	}
	long := slices.Repeat(split("a"), api.MaxWord+1)
	return []bad{
		{func(r *api.Reader) { r.States = api.MaxStates + 1 }, api.ErrLarge},
		{func(r *api.Reader) { r.States = math.MaxInt }, api.ErrLarge},
		{func(r *api.Reader) { r.Moves = make([]api.Move, api.MaxArcs+1) }, api.ErrLarge},
		{func(r *api.Reader) { r.Lasts = make([]api.Last, api.MaxArcs+1) }, api.ErrLarge},
		{func(r *api.Reader) { r.Sigma = ones(api.MaxSigma + 1) }, api.ErrLarge},
		{func(r *api.Reader) { r.Sigma = []string{"a", strings.Repeat("b", api.MaxSym+1)} }, api.ErrLarge},
		{func(r *api.Reader) { r.Sigma, r.States = []string{"b", "a"}, 0 }, api.ErrArg},
		{func(r *api.Reader) { r.Sigma = []string{"a", "b", "b", "c"} }, api.ErrArg},
		{func(r *api.Reader) { r.Sigma = []string{"a", "b", "c", " "} }, api.ErrArg},
		{func(r *api.Reader) { *r = api.Reader{} }, api.ErrArg},
		{func(r *api.Reader) { r.States = -1 }, api.ErrArg},
		{func(r *api.Reader) { r.States = math.MinInt }, api.ErrArg},
		{func(r *api.Reader) { r.States = 1 }, api.ErrArg},
		{func(r *api.Reader) { r.Moves[0].From = -1 }, api.ErrArg},
		{func(r *api.Reader) { r.Moves[2].From = 2 }, api.ErrArg},
		{func(r *api.Reader) { r.Moves[2].From = math.MaxInt }, api.ErrArg},
		{func(r *api.Reader) { r.Moves[1].To = 2 }, api.ErrArg},
		{func(r *api.Reader) { r.Moves[1].To = math.MinInt }, api.ErrArg},
		{func(r *api.Reader) { r.Lasts[1].State = 2 }, api.ErrArg},
		{func(r *api.Reader) { r.Lasts[0].State = -1 }, api.ErrArg},
		{func(r *api.Reader) { r.Moves[0].In = "" }, api.ErrArg},
		{func(r *api.Reader) { r.Moves[2].In = "d" }, api.ErrArg},
		{func(r *api.Reader) { r.Begin = []string{"d"} }, api.ErrArg},
		{func(r *api.Reader) { r.Begin = []string{"a", ""} }, api.ErrArg},
		{func(r *api.Reader) { r.Begin = []string{"ab"} }, api.ErrArg},
		{func(r *api.Reader) { r.Moves[1].Out = []string{"a", "d"} }, api.ErrArg},
		{func(r *api.Reader) { r.Lasts[1].Out = []string{"\xff"} }, api.ErrArg},
		{func(r *api.Reader) { r.Lasts[1].Out = []string{strings.Repeat("a", 1000)} }, api.ErrArg},
		// Not in order, or twice.
		{func(r *api.Reader) { r.Moves[0], r.Moves[1] = r.Moves[1], r.Moves[0] }, api.ErrArg},
		{func(r *api.Reader) { r.Moves[1], r.Moves[2] = r.Moves[2], r.Moves[1] }, api.ErrArg},
		{func(r *api.Reader) { r.Moves[1].In = "a" }, api.ErrArg},
		{func(r *api.Reader) { r.Moves[1] = r.Moves[0] }, api.ErrArg},
		{func(r *api.Reader) { r.Lasts[0], r.Lasts[1] = r.Lasts[1], r.Lasts[0] }, api.ErrArg},
		{func(r *api.Reader) { r.Lasts[1].State = 0 }, api.ErrArg},
		// Words that are too long, but only if all else is right.
		{func(r *api.Reader) { r.Begin = long }, api.ErrLarge},
		{func(r *api.Reader) { r.Moves[2].Out = long }, api.ErrLarge},
		{func(r *api.Reader) { r.Lasts[1].Out = long }, api.ErrLarge},
		{func(r *api.Reader) { r.Begin, r.Lasts[1].Out = long, []string{"d"} }, api.ErrArg},
		{func(r *api.Reader) { r.Begin = append(slices.Clone(long), "d") }, api.ErrArg},
		{func(r *api.Reader) { r.Begin, r.Lasts[1].State = long, 0 }, api.ErrArg},
		{func(r *api.Reader) { r.States, r.Begin = api.MaxStates+1, []string{"d"} }, api.ErrLarge},
	}
}

// goodReader returns a reader that makes something of all words of `a`, `b`.
func goodReader() api.Reader {
	return reader("c", "/b /", moved(0, "a", 1, "c"), moved(0, "b", 0, ""), moved(1, "b", 0, "ab"))
}

// TestErrorsOfReaders asks for what is no reader.
func TestErrorsOfReaders(t *testing.T) { // P6.3, R1, R2, R3
	if e := Validate(goodReader()); e != api.OK {
		t.Fatal(e)
	}
	for i, c := range badReaders() {
		r := goodReader()
		c.change(&r)
		refused(t, "bad reader "+strconv.Itoa(i), ofReading(r), c.want)
		wide := goodReader()
		wide.States = 41
		for _, a := range []api.Reader{goodReader(), wide, {Sigma: split("ab"), States: 1}} {
			refused(t, "bad reader behind another", map[string]outcome{"Equal": ofEqual(Equal(a, r)), "turned": ofEqual(Equal(r, a))}, c.want)
		}
		if _, _, e := Make(r, []string{""}); e != c.want {
			t.Errorf("%d: Make of no word: %d", i, e)
		}
	}
	for _, c := range []struct {
		x    []string
		want api.Errno
	}{
		{slices.Repeat(split("a"), api.MaxWord+1), api.ErrLarge},
		{[]string{"", strings.Repeat("a", api.MaxSym+1)}, api.ErrLarge},
		{[]string{"a", ""}, api.ErrArg},
		{[]string{"<"}, api.ErrArg},
	} {
		refused(t, "bad word", map[string]outcome{"Make": ofWord(Make(goodReader(), c.x))}, c.want)
	}
}

// TestLargestReaders validates readers of as much as there may be of each.
func TestLargestReaders(t *testing.T) { // P6.3, P1
	r := largest()
	if len(r.Moves) != api.MaxArcs || len(r.Lasts) != api.MaxStates {
		t.Fatal(len(r.Moves), len(r.Lasts))
	}
	if e := Validate(r); e != api.OK {
		t.Errorf("Validate: %d", e)
	}
	y, is, e := Make(r, slices.Repeat(r.Sigma[:1], api.MaxWord))
	if len(y) != 61*api.MaxWord || !is || e != api.OK {
		t.Errorf("Make: %d %v %d", len(y), is, e)
	}
	early, e := Early(r)
	if e != api.OK || early.States != 1 || len(early.Moves) != 20 {
		t.Errorf("Early: %d states, %d moves %d", early.States, len(early.Moves), e)
	}
}

// largest returns a reader of as many states, moves and lasts as there may be, which writes as much as there may be by each; it makes as much as one of one state.
func largest() api.Reader {
	roll := dice(11)
	r := api.Reader{Sigma: ones(api.MaxSigma), States: api.MaxStates}
	long := slices.Repeat(r.Sigma[:1], api.MaxWord)
	for q := range r.States {
		for x := range api.MaxArcs / api.MaxStates {
			r.Moves = append(r.Moves, api.Move{From: q, In: r.Sigma[x], To: roll(r.States), Out: long})
		}
		r.Lasts = append(r.Lasts, api.Last{State: q, Out: long})
	}
	return r
}

// TestNetSizes asks for relations of readers that are as large as they may be.
func TestNetSizes(t *testing.T) { // P6.4
	six, seven := split("abcabc"), split("abcabca")
	with := func(change func(r *api.Reader)) api.Reader {
		r := api.Reader{Sigma: split("abc"), States: 14, Begin: six}
		for q := range 13 {
			r.Moves = append(r.Moves, api.Move{From: q, In: "a", To: q + 1, Out: six}, api.Move{From: q, In: "b", To: q, Out: six})
			r.Lasts = append(r.Lasts, api.Last{State: q, Out: six})
		}
		change(&r)
		return r
	}
	for i, c := range []struct {
		r    api.Reader
		want api.Errno
	}{
		{with(func(r *api.Reader) {}), api.OK}, // 14 and 26
		{with(func(r *api.Reader) { r.States++ }), api.ErrLarge},
		{with(func(r *api.Reader) { r.Moves = append(r.Moves, moved(13, "a", 0, "")) }), api.ErrLarge},
		{with(func(r *api.Reader) { r.Lasts = append(r.Lasts, api.Last{State: 13}) }), api.OK},
		{with(func(r *api.Reader) { r.Begin = seven }), api.ErrLarge},
		{with(func(r *api.Reader) { r.Moves[25].Out = seven }), api.ErrLarge},
		{with(func(r *api.Reader) { r.Lasts[12].Out = seven }), api.ErrLarge},
		{api.Reader{Sigma: split("abc"), States: 40}, api.OK},
		{api.Reader{Sigma: split("abc"), States: 41}, api.ErrLarge},
	} {
		n, e := Net(c.r)
		if e != c.want || e != api.OK && !sameNet(n, api.Net{}) {
			t.Errorf("%d: %v %d", i, n, e)
		}
		if e == api.OK && rel.Validate(n) != api.OK {
			t.Errorf("%d: %v", i, n)
		}
		for _, x := range []string{"", "a", "ba", "aabab", "aaaaaaaaaaaaa"} {
			y, is, _ := Make(c.r, split(x))
			if l := below(n, x); c.want == api.OK && (is != (len(l) > 0) || is && strings.Join(y, "") != l[0]) {
				t.Errorf("%d: of %q %q %v, not %q", i, x, y, is, l)
			}
		}
	}
}

// late returns a reader that writes late: behind i times `a`, `b`, and i times `c` it has made the text, of 60 symbols, i times, all of it by `c`. What it makes is sure when `a` is read. It has twice as many states as there are rounds.
func late(rounds int, text string) api.Reader {
	r := api.Reader{Sigma: split("abc"), States: 2 * rounds}
	for i := range rounds {
		if i+1 < rounds {
			r.Moves = append(r.Moves, moved(i, "a", i+1, ""))
		}
		r.Moves = append(r.Moves, moved(i, "b", rounds+i, ""))
	}
	for i := 1; i < rounds; i++ {
		r.Moves = append(r.Moves, moved(rounds+i, "c", rounds+i-1, text))
	}
	r.Lasts = []api.Last{{State: rounds}}
	return r
}

// TestEarlySizes asks for readers that are as large as they may be.
func TestEarlySizes(t *testing.T) { // P6.5
	text := strings.Repeat("abbcacbacb", api.MaxWord/10)
	// row returns a reader of a row of states.
	row := func(states int, begin, last string) api.Reader {
		r := api.Reader{Sigma: split("abc"), States: states, Begin: split(begin), Lasts: []api.Last{{State: 0, Out: nil}, {State: states - 1, Out: split(last)}}}
		for q := range states - 1 {
			r.Moves = append(r.Moves, moved(q, "a", q+1, ""))
		}
		return r
	}
	sure := func(begin, last string) api.Reader { return reader(begin, "- /"+last, moved(0, "a", 1, "")) }
	behind := func(out, last string) api.Reader { return reader("", "/ /"+last, moved(0, "a", 1, out)) }
	for i, c := range []struct {
		r      api.Reader
		states int // 0: too large
	}{
		{row(api.MaxSmall, "", "b"), api.MaxSmall},
		{row(api.MaxSmall+1, "", "b"), 0},
		{row(api.MaxStates, "", "b"), 0},
		{sure(text, ""), 2},
		{sure("", text), 2},
		{sure(text[1:], "a"), 2},
		{sure(text, "a"), 0},
		{sure("a", text), 0},
		{behind(text[1:], "a"), 2},
		{behind(text, "a"), 0},
		{behind("a", text), 0},
		{behind("", text), 2},
		{late(150, text), 300},
		{late(151, text), 0},
	} {
		r, e := Early(c.r)
		if c.states == 0 {
			if e != api.ErrLarge || !sameReader(r, api.Reader{}) {
				t.Errorf("%d: %d states %d", i, r.States, e)
			}
			continue
		}
		if r.States != c.states || e != api.OK || Validate(r) != api.OK {
			t.Errorf("%d: %d states %d", i, r.States, e)
		}
	}
	// Each `a` writes all of the text, and `c` nothing any more.
	r, _ := Early(late(150, text))
	for _, m := range r.Moves {
		if want := map[string]string{"a": text, "b": "", "c": ""}[m.In]; strings.Join(m.Out, "") != want {
			t.Fatalf("%d by %s writes %q", m.From, m.In, m.Out)
		}
	}
}

// TestEqualLong asks for the first word of which readers make unlike words, at the bound of its length. What the one makes comes again after p symbols, what the other one makes after q; they are alike until p + q - 2.
func TestEqualLong(t *testing.T) { // P6.5
	alike := func(p, q int) (api.Reader, api.Reader) {
		// Lengths that differ by p or by q are of one class, and those of the greatest one are of others.
		class := make([]int, p+q-2)
		for i := range class {
			class[i] = i
		}
		for range class {
			for i := range class {
				for _, j := range []int{i + p, i + q} {
					if j < len(class) {
						class[i] = min(class[i], class[j])
						class[j] = class[i]
					}
				}
			}
		}
		wheel := func(n int) api.Reader {
			r := api.Reader{Sigma: split("abc"), States: n}
			for i := range n {
				r.Moves = append(r.Moves, moved(i, "a", (i+1)%n, ""))
				if class[i] == class[0] {
					r.Lasts = append(r.Lasts, api.Last{State: i})
				}
			}
			return r
		}
		return wheel(p), wheel(q)
	}
	for _, c := range []struct {
		p, q  int
		large bool
	}{{29, 33, false}, {31, 32, true}, {39, 40, true}, {2, 3, false}} {
		a, b := alike(c.p, c.q)
		same, x, e := Equal(a, b)
		if c.large {
			if same || len(x) > 0 || e != api.ErrLarge {
				t.Errorf("%d, %d: %v %q %d", c.p, c.q, same, x, e)
			}
		} else if same || len(x) != c.p+c.q-2 || e != api.OK {
			t.Errorf("%d, %d: %v %d symbols %d", c.p, c.q, same, len(x), e)
		}
	}
}

// TestEqualErrors asks for more than may be compared.
func TestEqualErrors(t *testing.T) { // P6.5, R1, R2
	sized := func(states int) api.Reader { return api.Reader{Sigma: split("abc"), States: states} }
	other := api.Reader{Sigma: split("ab"), States: 1}
	for what, c := range map[string]struct {
		a, b api.Reader
		want api.Errno
	}{
		"a is large":               {sized(41), sized(1), api.ErrLarge},
		"b is large":               {sized(1), sized(41), api.ErrLarge},
		"large, another alphabet":  {sized(41), other, api.ErrLarge},
		"another alphabet":         {sized(40), other, api.ErrFit},
		"b is none, and a large":   {sized(41), sized(0), api.ErrArg},
		"a is none, and b large":   {sized(0), sized(api.MaxStates + 1), api.ErrArg},
		"a is large, and b is not": {sized(api.MaxStates + 1), sized(0), api.ErrLarge},
	} {
		refused(t, what, map[string]outcome{"Equal": ofEqual(Equal(c.a, c.b))}, c.want)
	}
	if same, x, e := Equal(sized(40), sized(40)); !same || len(x) > 0 || e != api.OK {
		t.Errorf("40 states: %v %q %d", same, x, e)
	}
}

// six returns a net of 6 states with arcs that blanks divide: of each the state, what is above and below, or `-` for nothing, and the state to which it leads.
func six(end int, arcs string) api.Net {
	n := net(6, []int{end})
	for _, f := range strings.Fields(arcs) {
		x := strings.Split(strings.ReplaceAll(f, "-", " "), "")
		n.Arcs = append(n.Arcs, arc(int(f[0]-'0'), strings.TrimSpace(x[1]), strings.TrimSpace(x[2]), int(f[3]-'0')))
	}
	return n
}

// TestHardest asks for witnesses and readers of those nets of 6 states and 12 arcs that took most, of many that were looked through.
func TestHardest(t *testing.T) { // P6.1, P6.4
	for i, n := range []api.Net{ // the longest witnesses: of 41 symbols
		six(1, "3ab1 1aa0 1aa0 3ab1 3ab1 3bb1 3ab1 2aa5 1-a0 5ab4 4aa3 0ab2"),
		six(2, "2-a0 4aa2 0aa3 5aa1 5aa1 3--3 2--2 1aa4 2a-0 3--3 4--4 3aa5"),
	} {
		l, is, e := Witness(n)
		if !is || e != api.OK {
			t.Fatalf("%d: %v %d", i, is, e)
		}
		mustWitness(t, n, l)
	}
	// The most gaps, with which ways are no twins.
	if r, is, e := Read(six(2, "5a-4 2aa3 4a-5 3a-0 1a-2 0a-1 4b-3 3b-5 0b-4 0b-1 1b-2 5b-0")); is || e != api.OK {
		t.Errorf("%v %v %d", r, is, e)
	}
	// The most states of a reader.
	n := six(2, "2b-5 1bb3 5b-2 5a-2 4b-4 0a-1 1aa1 4a-3 1a-5 3b-0 2a-4 0b-3")
	r, is, e := Read(n)
	if !is || e != api.OK {
		t.Errorf("%d states %v %d", r.States, is, e)
	}
	mustStandFor(t, r, n)
}

// TestNeverLarge asks for witnesses and readers of nets of 6 states and 12 arcs, and of 8 states.
func TestNeverLarge(t *testing.T) { // P6.1, P6.2, P6.4
	roll := dice(12)
	for range 4000 {
		n := api.Net{Sigma: split("abc"), States: 6, Ends: []api.End{{State: roll(6)}}}
		ins, outs := [][]string{split("a"), split("ab"), {"", "a"}, {"", "a", "b", "c"}}[roll(4)], [][]string{split("a"), {"", "a"}, {"", "", "", "a"}, {"", "a", "b"}}[roll(4)]
		for range 12 {
			n.Arcs = append(n.Arcs, arc(roll(6), ins[roll(len(ins))], outs[roll(len(outs))], roll(6)))
		}
		is, e := Sole(n)
		if e != api.OK {
			t.Fatalf("%v: Sole %d", n, e)
		}
		l, there, e := Witness(n)
		if there == is || e != api.OK {
			t.Fatalf("%v: Witness %v %d", n, there, e)
		}
		if there {
			mustWitness(t, n, l)
			continue
		}
		r, made, e := Read(n)
		if e != api.OK || made && Validate(r) != api.OK {
			t.Fatalf("%v: Read %v %d", n, made, e)
		}
		if same, e := Same(n, n); !same || e != api.OK {
			t.Fatalf("%v: Same %v %d", n, same, e)
		}
	}
	// As many subsets, and many arcs.
	n := api.Net{Sigma: ones(api.MaxSigma), States: 8, Ends: []api.End{{State: 7}}}
	for i := range 7400 {
		s := n.Sigma[roll(api.MaxSigma)]
		n.Arcs = append(n.Arcs, slices.Repeat([]api.Arc{arc(roll(8), s, s, roll(8))}, 1+i%15)...)
	}
	if same, e := Same(n, n); !same || e != api.OK {
		t.Errorf("%d arcs: Same %v %d", len(n.Arcs), same, e)
	}
}

// back returns a function that copies words, but that the last symbol but as many is doubled, if it is the first symbol. A reader is to remember the last symbols.
func back(sigma []string, many int) api.Net {
	first := sigma[0]
	n := api.Net{Sigma: sigma, States: many + 2, Ends: []api.End{{State: many + 1}}}
	n.Arcs = append(n.Arcs, arc(0, first, first, many+2), arc(many+2, "", first, 1))
	n.States++
	for _, s := range sigma {
		n.Arcs = append(n.Arcs, arc(0, s, s, 0))
		for q := 1; q <= many; q++ {
			n.Arcs = append(n.Arcs, arc(q, s, s, q+1))
		}
	}
	return n
}

// TestReadOfMuch reads functions of which the readers are large, or larger than they may be.
func TestReadOfMuch(t *testing.T) { // P6.4
	for i, c := range []struct {
		n    api.Net
		want api.Errno
	}{
		{back(split("ab"), 3), api.OK},
		{back(split("ab"), 10), api.OK},
		{back(split("ab"), 11), api.ErrLarge}, // 4096 states
		{back(split("ab"), 30), api.ErrLarge},
		{silent(back(ones(40), 9)), api.OK},
		{silent(back(ones(40), 10)), api.ErrLarge}, // 2048 states, but 81920 moves
	} {
		if is, e := Sole(c.n); !is || e != api.OK {
			t.Errorf("%d: Sole %v %d", i, is, e)
		}
		r, is, e := Read(c.n)
		if is != (c.want == api.OK) || e != c.want || !is && !sameReader(r, api.Reader{}) {
			t.Errorf("%d: %d states %v %d", i, r.States, is, e)
		}
		if is && Validate(r) != api.OK {
			t.Errorf("%d: Validate %d", i, Validate(r))
		}
	}
}

// TestSameOfMuch compares functions with more subsets above than are compared.
func TestSameOfMuch(t *testing.T) { // P6.2: free, but what is told is right
	for i, c := range []struct {
		a, b api.Net
		same bool
	}{
		{back(split("ab"), 20), back(split("ab"), 20), true},
		{back(split("ab"), 20), copies("ab"), false},
		{copies("ab"), back(split("ab"), 20), false},
		{silent(back(split("ab"), 20)), silent(back(split("ab"), 19)), false},
		{silent(back(split("ab"), 20)), silent(back(split("ab"), 20)), true},
		{silent(back(split("ab"), 20)), silent(copies("ab")), false},
		{silent(copies("ab")), silent(back(split("ab"), 20)), false},
	} {
		if is, e := Same(c.a, c.b); e != api.ErrLarge && (is != c.same || e != api.OK) || e == api.ErrLarge && is {
			t.Errorf("%d: %v %d", i, is, e)
		}
	}
}

// copies returns a relation of each word of some symbols with itself.
func copies(sigma string) api.Net {
	n := api.Net{Sigma: split(sigma), States: 1, Ends: []api.End{{}}}
	for _, s := range n.Sigma {
		n.Arcs = append(n.Arcs, arc(0, s, s, 0))
	}
	return n
}

// silent returns a relation with nothing below.
func silent(n api.Net) api.Net {
	n = auto.Copy(n)
	for i := range n.Arcs {
		n.Arcs[i].Out = ""
	}
	return n
}

// TestReadOfLarge reads functions of many arcs, and such of which much is written at once.
func TestReadOfLarge(t *testing.T) { // P6.4
	copying := net(40, []int{39})
	for q := range 39 {
		for _, s := range copying.Sigma {
			copying.Arcs = append(copying.Arcs, arc(q, s, s, q+1), arc(q, s, s, q+1))
		}
	}
	r, is, e := Read(copying)
	if e != api.OK || !is || r.States != 40 || Validate(r) != api.OK {
		t.Errorf("copying: %d states %v %d", r.States, is, e)
	}
	// A symbol that decides of 60 symbols, or of 61: more than a reader writes at once.
	for _, c := range []struct {
		again string
		want  api.Errno
	}{{"", api.OK}, {"b", api.ErrLarge}} {
		n := net(34, []int{33}, arc(0, "a", "b", 1), arc(30, "a", c.again, 1), arc(30, "b", "b", 33))
		for q := 1; q < 30; q++ {
			n.Arcs = append(n.Arcs, arc(q, "", "b", q+1))
		}
		n.Arcs = append(n.Arcs, arc(0, "a", "", 31), arc(31, "a", "", 32), arc(32, "c", "", 33))
		r, is, e := Read(n)
		if is != (c.want == api.OK) || e != c.want || !is && !sameReader(r, api.Reader{}) {
			t.Errorf("decides of 60 and %q: %v %d", c.again, is, e)
		}
		if is && (Validate(r) != api.OK || longest(r) != 60) {
			t.Errorf("decides of 60: %v", r)
		}
	}
}

// TestReadOfRows reads functions in which rows of symbols are read before it is sure what is written.
func TestReadOfRows(t *testing.T) { // P6.4
	// Circles that write the same behind two rows, one of which has written nothing.
	ahead := net(33, []int{32}, arc(15, "b", "b", 15), arc(15, "a", "", 32), arc(0, "a", "", 16), arc(30, "b", "b", 30), arc(30, "c", "", 32))
	for q := range 15 {
		ahead.Arcs = append(ahead.Arcs, arc(q, "a", "b", q+1))
		if q > 0 {
			ahead.Arcs = append(ahead.Arcs, arc(15+q, "a", "", 16+q))
		}
	}
	r, is, e := Read(ahead)
	if !is || e != api.OK || longest(r) != 15 {
		t.Errorf("ahead: %v %v %d", r, is, e)
	}
	aaa, bbb := strings.Repeat("a", 15), strings.Repeat("b", 15)
	for x, y := range map[string]string{aaa + "a": bbb, aaa + "c": "", aaa + "bba": bbb + "bb", aaa + "bbc": "bb"} {
		if made, is, e := Make(r, split(x)); strings.Join(made, "") != y || !is || e != api.OK {
			t.Errorf("ahead: of %q %q %v %d", x, made, is, e)
		}
	}
	// All that is written is written behind a row of symbols, the last of which decides.
	row := func(states int) api.Net {
		n := net(2*states+2, []int{1})
		for q := range 2 * states {
			s := split("bc")[q/states]
			to := q + 3
			if q%states == states-1 {
				to = 1
				n.Arcs = append(n.Arcs, arc(q+2, s, s, to))
			} else {
				n.Arcs = append(n.Arcs, arc(q+2, "a", s, to))
			}
		}
		n.Arcs = append(n.Arcs, arc(0, "", "", 2), arc(0, "", "", 2+states))
		return n
	}
	r, is, e = Read(row(19))
	if !is || e != api.OK || longest(r) != 19 {
		t.Errorf("row: %v %v %d", r, is, e)
	}
}

// TestMemory changes results and asks again.
func TestMemory(t *testing.T) { // R5, R11
	n := of("ab:bc aa:bb ac:c")
	keep := auto.Copy(n)
	r, is, e := Read(n)
	again, _, _ := Read(n)
	if !is || e != api.OK || !sameReader(r, again) {
		t.Fatalf("Read: %v, %v", r, again)
	}
	spoil(t, &r)
	if !sameNet(n, keep) {
		t.Error("Read shares memory with its argument")
	}
	n = of("a:b a:c")
	keep = auto.Copy(n)
	l, _, _ := Witness(n)
	twice, _, _ := Witness(n)
	if !slices.EqualFunc(l, twice, slices.Equal[[]string]) {
		t.Errorf("Witness: %q, %q", l, twice)
	}
	for i := range l {
		l[i][0] = "x"
	}
	if !sameNet(n, keep) || twice[0][0] != "a" {
		t.Error("Witness shares memory")
	}
	a := goodReader()
	m, e := Net(a)
	mm, _ := Net(a)
	if e != api.OK || !sameNet(m, mm) {
		t.Errorf("Net: %v, %v", m, mm)
	}
	m.Sigma[0], m.Arcs[0].In = "x", "x"
	early, e := Early(a)
	other, _ := Early(a)
	if e != api.OK || !sameReader(early, other) {
		t.Errorf("Early: %v, %v", early, other)
	}
	spoil(t, &early)
	if !sameReader(a, goodReader()) {
		t.Errorf("a reader is changed: %v", a)
	}
	for _, x := range []string{"", "ab"} {
		y, _, _ := Make(a, split(x))
		_ = append(y[:len(y):len(y)], "x")
		for i := range y {
			y[i] = "x"
		}
		if !sameReader(a, goodReader()) {
			t.Errorf("Make of %q shares memory with its argument", x)
		}
	}
	room := append(make([]string, 0, 3), "a", "b", "c")
	alone := api.Reader{Sigma: split("abc"), States: 1, Begin: room[:2], Moves: []api.Move{moved(0, "a", 0, "b")}, Lasts: []api.Last{{}}}
	y, _, _ := Make(alone, nil)
	y[0] = "x"
	if _, _, e := Make(alone, split("a")); e != api.OK || !slices.Equal(room, split("abc")) {
		t.Errorf("Make shares memory with its argument: %q %d", room, e)
	}
}

// spoil changes all of a reader, and fails if a change of one word changes another one.
func spoil(t *testing.T, r *api.Reader) {
	t.Helper()
	r.Sigma[0] = "x"
	words := [][]string{r.Begin}
	for _, m := range r.Moves {
		words = append(words, m.Out)
	}
	for _, l := range r.Lasts {
		words = append(words, l.Out)
	}
	name := func(i, j int) string { return strconv.Itoa(i) + " " + strconv.Itoa(j) }
	for i, w := range words {
		for j := range w {
			w[j] = name(i, j)
		}
		_ = append(w, "x")
	}
	for i, w := range words {
		for j, s := range w {
			if s != name(i, j) {
				t.Errorf("words %d and %q have memory in common", i, s)
			}
		}
	}
}

// TestNilAndEmpty asks the same of nil and of empty lists.
func TestNilAndEmpty(t *testing.T) { // R4
	a := api.Reader{States: 1, Lasts: []api.Last{{}}}
	b := api.Reader{Sigma: []string{}, States: 1, Begin: []string{}, Moves: []api.Move{}, Lasts: []api.Last{{Out: []string{}}}}
	if same, _, e := Equal(a, b); !same || e != api.OK {
		t.Errorf("Equal: %v %d", same, e)
	}
	for _, x := range [][]string{nil, {}} {
		if y, is, e := Make(b, x); len(y) > 0 || !is || e != api.OK {
			t.Errorf("Make: %v %v %d", y, is, e)
		}
	}
	if is, e := Same(api.Net{States: 1}, api.Net{Sigma: []string{}, States: 1, Arcs: []api.Arc{}, Ends: []api.End{}}); !is || e != api.OK {
		t.Errorf("Same: %v %d", is, e)
	}
}

// TestGreatest calls all functions with the largest relations.
func TestGreatest(t *testing.T) { // P1
	sigma := ones(api.MaxSigma)
	roll := dice(13)
	pairs := func(arcs func(p, q int) []api.Arc) api.Net {
		n := api.Net{Sigma: sigma, States: 40, Ends: []api.End{{State: 39}}}
		for p := range 40 {
			for q := range 40 {
				n.Arcs = append(n.Arcs, arcs(p, q)...)
			}
		}
		return n
	}
	each := func(in, out func(x int) string) api.Net {
		return pairs(func(p, q int) []api.Arc {
			var l []api.Arc
			for x := range 37 {
				l = append(l, arc(p, in(x), out(x), q))
			}
			return l
		})
	}
	symbol := func(x int) string { return sigma[x] }
	nothing := func(int) string { return "" }
	random := func(int) string { return sigma[roll(40)] }
	crowd := each(random, random)
	for range api.MaxArcs {
		crowd.Ends = append(crowd.Ends, api.End{State: roll(40)})
	}
	crowd.Ends = crowd.Ends[1:]
	for what, c := range map[string]struct {
		n               api.Net
		sole, ambiguous bool
	}{
		"copies":               {each(symbol, symbol), true, true},
		"at random":            {crowd, false, true},
		"nothing above":        {each(nothing, symbol), false, true},
		"nothing at all":       {each(nothing, nothing), true, true},
		"by symbols of states": {pairs(func(p, q int) []api.Arc { return []api.Arc{arc(p, sigma[q], sigma[p], q)} }), true, false},
	} {
		if is, e := Sole(c.n); is != c.sole || e != api.OK {
			t.Errorf("%s: Sole %v %d", what, is, e)
		}
		if is, e := Unambiguous(c.n); is == c.ambiguous || e != api.OK {
			t.Errorf("%s: Unambiguous %v %d", what, is, e)
		}
		if l, is, e := Witness(c.n); is == c.sole || e != api.OK {
			t.Errorf("%s: Witness %q %v %d", what, l, is, e)
		}
		if is, e := Same(c.n, c.n); c.sole && (!is || e != api.OK) || !c.sole && e != api.ErrRule {
			t.Errorf("%s: Same %v %d", what, is, e)
		}
		if r, _, e := Read(c.n); e == api.OK && Validate(r) != api.OK {
			t.Errorf("%s: Read %d", what, e)
		}
	}
}
