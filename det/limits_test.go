package det

import (
	"math"
	"slices"
	"strings"
	"testing"

	"ablaut/api"
	"ablaut/auto"
)

// ones returns the symbols of one byte, ascending, at most n.
func ones(n int) []string {
	var l []string
	for c := 33; c <= 126 && len(l) < n; c++ {
		if c != '<' && c != '>' {
			l = append(l, string(rune(c)))
		}
	}
	return l
}

// line returns an acceptor of the one word of so many symbols s, with a state for each symbol and one more.
func line(length int, s string) api.Net {
	n := net(length+1, []int{length})
	for q := range length {
		n.Arcs = append(n.Arcs, arc(q, s, q+1))
	}
	return n
}

// rings returns an acceptor of the words of `a` whose length has the rest r by one of the numbers at least; of numbers without a common divisor the minimal one has as many states as their product, by few states here.
func rings(r int, numbers ...int) api.Net {
	n := net(1, nil)
	for _, k := range numbers {
		begin := n.States
		n.Arcs = append(n.Arcs, arc(0, "", begin))
		for i := range k {
			n.Arcs = append(n.Arcs, arc(begin+i, "a", begin+(i+1)%k))
		}
		n.Ends = append(n.Ends, api.End{State: begin + r%k})
		n.States += k
	}
	return n
}

// heaps returns an acceptor that has one subset, and 2^k ones for each k: behind a symbol of its own, a state that stays, and k states, each of which is there just if the symbol so many places ahead is `a`. It has no ends.
func heaps(ks ...int) api.Net {
	n := api.Net{Sigma: ones(len(ks)), States: 1}
	n.Sigma = append(n.Sigma, "a", "b")
	for i, k := range ks {
		stay := n.States
		n.Arcs = append(n.Arcs, arc(0, n.Sigma[i], stay), arc(stay, "a", stay), arc(stay, "b", stay))
		for q := stay; q < stay+k; q++ {
			n.Arcs = append(n.Arcs, arc(q, "a", q+1))
			if q > stay {
				n.Arcs = append(n.Arcs, arc(q, "b", q+1))
			}
		}
		n.States += k + 1
	}
	return n
}

// outcome is what a call returned: whether its other results are zero, and its error.
type outcome struct {
	zero bool
	e    api.Errno
}

func ofNet(n api.Net, e api.Errno) outcome {
	return outcome{sameNet(n, api.Net{}), e}
}

func ofTold(is bool, w []string, e api.Errno) outcome {
	return outcome{!is && len(w) == 0, e}
}

// ofOne calls all functions of one acceptor.
func ofOne(n api.Net) map[string]outcome {
	is, e := IsMin(n)
	return map[string]outcome{
		"Min":        ofNet(Min(n)),
		"IsMin":      {!is, e},
		"Complement": ofNet(Complement(n)),
		"Star":       ofNet(Star(n)),
	}
}

// ofTwo calls all functions of two acceptors.
func ofTwo(a, b api.Net) map[string]outcome {
	return map[string]outcome{
		"Either": ofNet(Either(a, b)),
		"Both":   ofNet(Both(a, b)),
		"Less":   ofNet(Less(a, b)),
		"Chain":  ofNet(Chain(a, b)),
		"Same":   ofTold(Same(a, b)),
		"Within": ofTold(Within(a, b)),
		"Apart":  ofTold(Apart(a, b)),
		"Left":   ofNet(Left(a, b)),
	}
}

// refused fails if one of the calls returned another error, or a result with it.
func refused(t *testing.T, what string, calls map[string]outcome, want api.Errno) {
	t.Helper()
	for name, got := range calls {
		if got != (outcome{true, want}) {
			t.Errorf("%s: %s: %v, not error %d", what, name, got, want)
		}
	}
}

// taken fails if one of the calls returned an error.
func taken(t *testing.T, what string, calls map[string]outcome) {
	t.Helper()
	for name, got := range calls {
		if got.e != api.OK {
			t.Errorf("%s: %s: error %d", what, name, got.e)
		}
	}
}

// badNets are nets that are no acceptors, with their errors.
func badNets() []struct {
	n    api.Net
	want api.Errno
} {
	type bad = struct {
		n    api.Net
		want api.Errno
	}
	with := func(change func(n *api.Net)) api.Net {
		n := net(2, []int{1}, arc(0, "a", 1))
		change(&n)
		return n
	}
	return []bad{
		{api.Net{}, api.ErrArg},
		{with(func(n *api.Net) { n.States = api.MaxStates + 1 }), api.ErrLarge},
		{with(func(n *api.Net) { n.States = math.MaxInt }), api.ErrLarge},
		{with(func(n *api.Net) { n.States = math.MinInt }), api.ErrArg},
		{with(func(n *api.Net) { n.Arcs = slices.Repeat(n.Arcs, api.MaxArcs+1) }), api.ErrLarge},
		{with(func(n *api.Net) { n.Ends = slices.Repeat(n.Ends, api.MaxArcs+1) }), api.ErrLarge},
		{with(func(n *api.Net) { n.Sigma = ones(api.MaxSigma + 1) }), api.ErrLarge},
		{with(func(n *api.Net) { n.Sigma = []string{"a", strings.Repeat("b", api.MaxSym+1)} }), api.ErrLarge},
		{with(func(n *api.Net) { n.Sigma = []string{"b", "a"} }), api.ErrArg},
		{with(func(n *api.Net) { n.Sigma = []string{"a", "\xff"} }), api.ErrArg},
		{with(func(n *api.Net) { n.Arcs[0].To = 2 }), api.ErrArg},
		{with(func(n *api.Net) { n.Arcs[0].From = math.MinInt }), api.ErrArg},
		{with(func(n *api.Net) { n.Ends[0].State = -1 }), api.ErrArg},
		{with(func(n *api.Net) { n.Arcs[0].In, n.Arcs[0].Out = "c", "c" }), api.ErrArg},
		{with(func(n *api.Net) { n.Arcs[0].Out = "b" }), api.ErrType},
		{with(func(n *api.Net) { n.Arcs[0].In = "" }), api.ErrType},
		{with(func(n *api.Net) { n.Arcs[0].Cost = 1 }), api.ErrType},
		{with(func(n *api.Net) { n.Ends[0].Cost = math.MaxInt }), api.ErrType},
	}
}

func TestErrors(t *testing.T) { // R1, R2, R3
	fine := net(2, []int{1}, arc(0, "a", 1))
	large := net(api.MaxSmall+1, nil)
	other := over(word("abc"), fine)
	wide := net(1, []int{0}, arc(0, "a", 0))
	for i, c := range badNets() {
		what := "bad net " + string(rune('A'+i))
		refused(t, what, ofOne(c.n), c.want)
		for _, n := range []api.Net{fine, large, other, heaps(12)} {
			refused(t, what+" ahead", ofTwo(c.n, n), c.want)
			refused(t, what+" behind", ofTwo(n, c.n), c.want) // ahead of the size of the first one, and of ErrFit
		}
		for k, d := range badNets() {
			if c.want != d.want && (i+k)%3 == 0 { // some of all pairs
				refused(t, what+" behind another", ofTwo(d.n, c.n), d.want)
			}
		}
	}
	for _, n := range []api.Net{large, heaps(12)} {
		refused(t, "a large one", ofOne(n), api.ErrLarge)
		for _, x := range []api.Net{fine, other, over(n.Sigma, wide)} { // of what fits, and ahead of ErrFit
			refused(t, "a large one ahead", ofTwo(n, x), api.ErrLarge)
			refused(t, "a large one behind", ofTwo(x, n), api.ErrLarge)
		}
	}
	refused(t, "unlike alphabets", ofTwo(fine, other), api.ErrFit)
	refused(t, "unlike alphabets", ofTwo(other, fine), api.ErrFit)
	refused(t, "unlike symbols", ofTwo(fine, over([]string{"a", "c"}, fine)), api.ErrFit)
	refused(t, "one without symbols", ofTwo(api.Net{States: 1}, fine), api.ErrFit)
	// Ahead of what is too large for both: a product, a result.
	refused(t, "unlike alphabets, a large product", ofTwo(rings(0, 16, 25), over([]string{"a"}, rings(0, 13, 29))), api.ErrFit)
	taken(t, "equal alphabets", ofTwo(fine, over(word("ab"), fine)))
	taken(t, "no symbols", ofTwo(api.Net{States: 1}, api.Net{Sigma: []string{}, States: 2}))
}

func TestSmall(t *testing.T) { // MaxSmall states, whether they are reached or not
	for _, ends := range [][]int{nil, {0}, {api.MaxSmall - 1}} {
		n := net(api.MaxSmall, ends)
		taken(t, "MaxSmall states", ofOne(n))
		taken(t, "MaxSmall states twice", ofTwo(n, n))
	}
	if m, e := Min(line(api.MaxSmall-1, "a")); m.States != api.MaxSmall || e != api.OK {
		t.Errorf("Min: %d states, error %d", m.States, e)
	}
	if is, e := IsMin(line(api.MaxSmall-1, "a")); !is || e != api.OK {
		t.Errorf("IsMin: %v %d", is, e)
	}
}

func TestSubsets(t *testing.T) { // MaxSubsets subsets, those from which no end is reached too
	just := []int{11, 9, 8, 7, 5, 4, 2, 1, 0} // with the first one: 3000
	most, more := heaps(just...), heaps(append(just, 0)...)
	none := over(most.Sigma, net(1, nil))
	taken(t, "MaxSubsets subsets", ofOne(most))
	taken(t, "MaxSubsets subsets ahead", ofTwo(most, none))
	taken(t, "MaxSubsets subsets behind", ofTwo(none, most))
	if m, e := Min(most); !sameNet(m, none) || e != api.OK {
		t.Errorf("MaxSubsets subsets without a word: %v %d", m, e)
	}
	none = over(more.Sigma, none)
	refused(t, "a subset more", ofOne(more), api.ErrLarge)
	refused(t, "a subset more ahead", ofTwo(more, none), api.ErrLarge)
	refused(t, "a subset more behind", ofTwo(none, more), api.ErrLarge)
	refused(t, "very many subsets", ofOne(heaps(90)), api.ErrLarge)
	// As many minimal states: the k-th symbol from the end is an `a`.
	n := over(ab, net(12, []int{11}, arc(0, "a", 0), arc(0, "b", 0), arc(0, "a", 1)))
	for q := 1; q < 11; q++ {
		n.Arcs = append(n.Arcs, arc(q, "a", q+1), arc(q, "b", q+1))
	}
	if m, e := Min(n); m.States != 1<<11 || len(m.Arcs) != 1<<12 || e != api.OK {
		t.Errorf("many states: %d, %d arcs, error %d", m.States, len(m.Arcs), e)
	}
	refused(t, "a result of many states", map[string]outcome{"Complement": ofNet(Complement(n)), "Star": ofNet(Star(over(word("abc"), n)))}, api.ErrLarge)
	if m, e := Min(rings(7, 41, 73)); m.States != 41*73 || e != api.OK {
		t.Errorf("two rings: %d states, error %d", m.States, e)
	}
}

// looped returns an acceptor of a line, and of any number of `b` behind it.
func looped(length int) api.Net {
	n := line(length, "a")
	n.Arcs = append(n.Arcs, arc(length, "b", length))
	return n
}

// twoWords returns an acceptor of `a` p times, and of `a` q times.
func twoWords(p, q int) api.Net {
	n := line(max(p, q), "a")
	n.Ends = []api.End{{State: p}, {State: q}}
	return n
}

func TestResults(t *testing.T) { // P3.2: a result of at most MaxSmall states
	none := net(1, nil)
	for name, c := range map[string]struct {
		most, more func() (api.Net, api.Errno)
	}{
		// A line, and a state for all that leaves it.
		"Complement": {func() (api.Net, api.Errno) { return Complement(line(298, "a")) }, func() (api.Net, api.Errno) { return Complement(line(299, "a")) }},
		// Two lines between the same begin and end.
		"Either": {func() (api.Net, api.Errno) { return Either(line(150, "a"), line(150, "b")) }, func() (api.Net, api.Errno) { return Either(line(150, "a"), line(151, "b")) }},
		// The least common multiple of two numbers.
		"Both": {func() (api.Net, api.Errno) { return Both(rings(0, 12), rings(0, 25)) }, func() (api.Net, api.Errno) { return Both(rings(0, 7), rings(0, 43)) }},
		"Less": {func() (api.Net, api.Errno) { return Less(rings(0, 12), rings(0, 25)) }, func() (api.Net, api.Errno) { return Less(rings(0, 7), rings(0, 43)) }},
		// Also of one net alone, whose minimal acceptor has more.
		"Either with none": {func() (api.Net, api.Errno) { return Either(rings(0, 12, 25), none) }, func() (api.Net, api.Errno) { return Either(rings(0, 7, 43), none) }},
		"Less without any": {func() (api.Net, api.Errno) { return Less(rings(0, 12, 25), none) }, func() (api.Net, api.Errno) { return Less(rings(0, 7, 43), none) }},
		"Chain":            {func() (api.Net, api.Errno) { return Chain(line(150, "a"), line(149, "a")) }, func() (api.Net, api.Errno) { return Chain(line(150, "a"), line(150, "a")) }},
		// Sums of 16 and 21 are all numbers from 300 on, but not 299.
		"Star": {func() (api.Net, api.Errno) { return Star(looped(299)) }, func() (api.Net, api.Errno) { return Star(twoWords(16, 21)) }},
	} {
		if n, e := c.most(); n.States != api.MaxSmall || e != api.OK || !sameNet(n, plain(n)) {
			t.Errorf("%s: %d states, error %d", name, n.States, e)
		}
		if n, e := c.more(); !sameNet(n, api.Net{}) || e != api.ErrLarge {
			t.Errorf("%s of a state more: %d states, error %d", name, n.States, e)
		}
	}
}

// hole returns an acceptor of all words of `a`, but that of so many symbols.
func hole(length int) api.Net {
	n := net(length+2, []int{length + 1}, arc(length+1, "a", length+1))
	for q := range length + 1 {
		n.Arcs = append(n.Arcs, arc(q, "a", q+1))
		if q < length {
			n.Ends = append(n.Ends, api.End{State: q})
		}
	}
	return n
}

func TestProduct(t *testing.T) { // P3.2, P3.3: the product of the numbers of minimal states is at most 100000
	a := rings(0, 16, 25) // 400 minimal states, of 42; neither 248 nor 249 is one of its lengths
	type two = func(a, b api.Net) outcome
	either := func(a, b api.Net) outcome { return ofNet(Either(a, b)) }
	both := func(a, b api.Net) outcome { return ofNet(Both(a, b)) }
	less := func(a, b api.Net) outcome { return ofNet(Less(a, b)) }
	same := func(a, b api.Net) outcome { return ofTold(Same(a, b)) }
	within := func(a, b api.Net) outcome { return ofTold(Within(a, b)) }
	apart := func(a, b api.Net) outcome { return ofTold(Apart(a, b)) }
	for name, c := range map[string]struct {
		f          two
		most, more api.Net // of 250 and of 251 states; the results have no more
	}{
		"Either": {either, hole(248), hole(249)},
		"Both":   {both, line(249, "a"), line(250, "a")},
		"Less":   {less, hole(248), hole(249)},
		"Same":   {same, hole(248), hole(249)},
		"Within": {within, hole(248), hole(249)},
		"Apart":  {apart, line(249, "a"), line(250, "a")},
	} {
		taken(t, "a product of 100000", map[string]outcome{name: c.f(a, c.most)})
		refused(t, "a greater product", map[string]outcome{name: c.f(a, c.more), name + " turned": c.f(c.more, a)}, api.ErrLarge)
		// Only the states of minimal acceptors count.
		wide := c.most
		wide.States = api.MaxSmall
		taken(t, "a product of 100000", map[string]outcome{name: c.f(a, wide)})
		if name != "Less" {
			taken(t, "a product of 100000", map[string]outcome{name + " turned": c.f(c.most, a)})
		}
	}
	// 885 times 113; and also where the words are equal.
	refused(t, "a product of 100005", map[string]outcome{"Same": same(rings(0, 15, 59), rings(0, 113))}, api.ErrLarge)
	refused(t, "a product of 160000", map[string]outcome{"Same": ofTold(Same(a, a)), "Within": ofTold(Within(a, a)), "Apart": ofTold(Apart(a, a))}, api.ErrLarge)
	// Left and Chain do not ask for it.
	none := net(1, nil)
	if n, e := Left(a, over(ab, rings(1, 13, 29))); n.States != 1 || len(n.Ends) != 1 || e != api.OK {
		t.Errorf("Left of a great product: %d states, error %d", n.States, e)
	}
	if n, e := Chain(rings(0, 41, 73), hole(40)); e != api.ErrLarge {
		t.Errorf("Chain of many states: %d states, error %d", n.States, e)
	}
	if n, e := Chain(rings(7, 41, 73), none); !sameNet(n, none) || e != api.OK {
		t.Errorf("Chain of many states and none: %d states, error %d", n.States, e)
	}
}

func TestChainSubsets(t *testing.T) { // P3.2
	// The first word of a has r symbols; with fewer a state of the ring is alone, with as many or more that of b is there too: with the 2993 states of the ring, 2993 + r subsets. The words of the chain are all of r symbols or more.
	b := net(1, []int{0}, arc(0, "a", 0))
	n, e := Chain(rings(7, 41, 73), b)
	if n.States != 8 || e != api.OK {
		t.Errorf("MaxSubsets subsets: %d states, error %d", n.States, e)
	}
	n, e = Chain(rings(8, 41, 73), b)
	if !sameNet(n, api.Net{}) || e != api.ErrLarge {
		t.Errorf("a subset more: %d states, error %d", n.States, e)
	}
	// It is Min of both that is chained: states that are alike do not make more. The second a has 2870 subsets, twice as many as states of Min.
	b = net(3, []int{0, 1, 2}, arc(0, "a", 1), arc(1, "a", 2), arc(2, "a", 0), arc(0, "", 2))
	if n, e := Chain(rings(7, 41, 73), b); n.States != 8 || e != api.OK {
		t.Errorf("MaxSubsets subsets, by Min of b: %d states, error %d", n.States, e)
	}
	a := rings(7, 35, 82)
	a.Ends = append(a.Ends, api.End{State: a.Ends[1].State + 41})
	if n, e := Chain(a, hole(200)); n.States != 8 || e != api.OK {
		t.Errorf("less than MaxSubsets subsets, by Min of a: %d states, error %d", n.States, e)
	}
}

// starts returns an acceptor over `a`, `b`, `c` of `a` and other words of `a`, of `b` with any number of `a` behind it, and, if it is asked for, of `c`. Of the words of `a` the minimal acceptor has 10 states, and then a ring of 1490 ones.
func starts(withC bool) api.Net {
	const tail = 10
	n := over(word("abc"), rings(0, 10, 149))
	for i := range n.Arcs {
		n.Arcs[i].From += tail
		n.Arcs[i].To += tail
	}
	for i := range n.Ends {
		n.Ends[i].State += tail
	}
	n.States += tail
	for q := range tail {
		n.Arcs = append(n.Arcs, arc(q, "a", q+1))
	}
	n.Arcs = append(n.Arcs, arc(0, "b", n.States), arc(n.States, "a", n.States))
	n.Ends = append(n.Ends, api.End{State: 1}, api.End{State: 9}, api.End{State: n.States})
	n.States++
	if withC {
		n.Arcs = append(n.Arcs, arc(0, "c", n.States))
		n.Ends = append(n.Ends, api.End{State: n.States})
		n.States++
	}
	return n
}

func TestStarSubsets(t *testing.T) { // P3.2
	// Each symbol is a word, so that all words are in Star, and a new word may begin at each place. So a subset has, with the new begin, all states to which up to so many `a` lead: 1500 ones, each with and without the state behind `b`; and one more, behind `c`.
	for withC, want := range map[bool]int{false: 1501, true: 1502} {
		if m, e := Min(starts(withC)); m.States != want || e != api.OK {
			t.Fatalf("Min has %d states, error %d", m.States, e)
		}
	}
	n, e := Star(starts(false))
	if !sameNet(n, over(word("abc"), all(ab))) || e != api.OK {
		t.Errorf("MaxSubsets subsets: %v %d", n, e)
	}
	n, e = Star(starts(true))
	if !sameNet(n, api.Net{}) || e != api.ErrLarge {
		t.Errorf("a subset more: %v %d", n, e)
	}
}

func TestLongWords(t *testing.T) { // P3.3
	none := net(1, nil)
	just, long := line(api.MaxWord, "a"), line(api.MaxWord+1, "a")
	w := slices.Repeat([]string{"a"}, api.MaxWord)
	for name, c := range map[string]struct {
		f          func(a, b api.Net) (bool, []string, api.Errno)
		just, long api.Net // what it is compared with
	}{
		"Same":   {Same, none, none},
		"Within": {Within, none, none},
		"Apart":  {Apart, just, long},
	} {
		if is, got, e := c.f(just, c.just); is || !slices.Equal(got, w) || e != api.OK {
			t.Errorf("%s: %v %q %d", name, is, got, e)
		}
		if is, got, e := c.f(long, c.long); is || got != nil || e != api.ErrLarge {
			t.Errorf("%s of a longer word: %v %q %d", name, is, got, e)
		}
	}
	if is, got, e := Same(none, long); is || got != nil || e != api.ErrLarge {
		t.Errorf("Same of a longer word: %v %q %d", is, got, e)
	}
	// Only the first word counts, and none if there is none.
	if is, got, e := Within(twoWords(2, 200), none); is || !slices.Equal(got, w[:2]) || e != api.OK {
		t.Errorf("Within with a longer word behind: %v %q %d", is, got, e)
	}
	if is, got, e := Same(long, long); !is || len(got) > 0 || e != api.OK {
		t.Errorf("Same of longer words: %v %q %d", is, got, e)
	}
}

func TestLeftOfMany(t *testing.T) { // P3.4
	// The 11th symbol from the end of a is an `a`; with ten symbols behind it, the last symbol of Left is.
	n := over(ab, net(12, []int{11}, arc(0, "a", 0), arc(0, "b", 0), arc(0, "a", 1)))
	ten := net(11, []int{10})
	for q := 1; q < 11; q++ {
		n.Arcs = append(n.Arcs, arc(q, "a", q+1), arc(q, "b", q+1))
		ten.Arcs = append(ten.Arcs, arc(q-1, "a", q), arc(q-1, "b", q))
	}
	want := net(2, []int{1}, arc(0, "a", 1), arc(0, "b", 0), arc(1, "a", 1), arc(1, "b", 0))
	if l, e := Left(n, ten); !sameNet(l, want) || e != api.OK {
		t.Errorf("Left: %v %d", l, e)
	}
	// More states than the functions of P3.2 may return.
	if l, e := Left(n, net(1, []int{0})); !sameNet(l, good[api.Net](t)(Min(n))) || e != api.OK {
		t.Errorf("Left by the empty word: %d states, error %d", l.States, e)
	}
	// All that is left is what may begin a word of a: both have 300 states, and as many arcs and ends as a net may have.
	a := dense(1)
	if l, e := Left(a, a); !sameNet(l, over(a.Sigma, all(a.Sigma))) || e != api.OK {
		t.Errorf("Left of dense ones: %v %d", l, e)
	}
}

// dense returns an acceptor of MaxSmall states, MaxArcs arcs and MaxArcs ends, which accepts all words.
func dense(symbols int) api.Net {
	n := api.Net{Sigma: ones(symbols), States: api.MaxSmall}
	for i := range api.MaxArcs {
		n.Arcs = append(n.Arcs, arc(i%n.States, n.Sigma[i/n.States%symbols], (i%n.States*7+i/n.States)%n.States))
		n.Ends = append(n.Ends, api.End{State: i % n.States})
	}
	return n
}

// weave returns an acceptor of MaxSmall states and MaxArcs arcs over 40 symbols that has 2^k subsets: beside k states of which each word has others, all of the other states, with many empty arcs between.
func weave(k int) api.Net {
	n := over(ones(api.MaxSigma), net(api.MaxSmall, []int{k, 200}, arc(0, "", k+1)))
	for i, s := range n.Sigma {
		n.Arcs = append(n.Arcs, arc(0, s, 0))
		if i%2 == 0 {
			n.Arcs = append(n.Arcs, arc(0, s, 1))
		}
		for q := 1; q < k; q++ {
			n.Arcs = append(n.Arcs, arc(q, s, q+1))
		}
	}
	rest := n.States - k - 1
	for i := 0; len(n.Arcs) < api.MaxArcs; i++ {
		s := ""
		if x := i / rest % (2 * api.MaxSigma); x < api.MaxSigma {
			s = n.Sigma[x]
		}
		n.Arcs = append(n.Arcs, arc(k+1+i%rest, s, k+1+(i*5+i/rest)%rest))
	}
	return n
}

// TestAnyArguments calls all functions with all sorts of arguments, also the largest ones: they end and do not panic, and what they return with an error is zero.
func TestAnyArguments(t *testing.T) { // P1, R3, R6
	nets := []api.Net{dense(1), dense(2), dense(40), weave(7), line(api.MaxStates-1, "a"), rings(0, 41, 73), heaps(10, 10), starts(true), looped(299), net(1, nil), all(ones(40))}
	for _, c := range badNets() {
		nets = append(nets, c.n)
	}
	checked := func(calls map[string]outcome) {
		for name, got := range calls {
			if got.e != api.OK && !got.zero {
				t.Errorf("%s: a result with error %d", name, got.e)
			}
		}
	}
	for i, a := range nets {
		checked(ofOne(a))
		checked(ofTwo(a, a))
		checked(ofTwo(a, nets[(i+1)%len(nets)]))
		checked(ofTwo(nets[(i+3)%len(nets)], a))
	}
	hard := weave(11)
	taken(t, "a hard one", map[string]outcome{"Star": ofNet(Star(hard)), "Left": ofNet(Left(dense(40), hard)), "Same": ofTold(Same(hard, dense(40)))})
}

// spoil changes all that a net has.
func spoil(n api.Net) {
	for i := range n.Sigma {
		n.Sigma[i] = "?"
	}
	for i := range n.Arcs {
		n.Arcs[i] = api.Arc{From: -1}
	}
	for i := range n.Ends {
		n.Ends[i] = api.End{State: -1}
	}
}

// TestMemory changes results, and looks whether arguments or other results change too.
func TestMemory(t *testing.T) { // R5, R11
	sigma := word("abc")
	a, b := over(sigma, of("a ab b")), over(sigma, of("a c"))
	a.Arcs = slices.Grow(a.Arcs, 100) // room in which nothing may be written
	a.Ends = slices.Grow(a.Ends, 100)
	oldA, oldB := auto.Copy(a), auto.Copy(b)
	calls := func() []api.Net {
		one := good[api.Net](t)
		return []api.Net{one(Min(a)), one(Complement(a)), one(Star(a)), one(Either(a, b)), one(Both(a, b)), one(Less(a, b)), one(Chain(a, b)), one(Left(a, b))}
	}
	first, again := calls(), calls()
	for i, n := range first {
		if !sameNet(n, again[i]) {
			t.Errorf("call %d: %v and %v", i, n, again[i])
		}
		spoil(n)
	}
	if _, w, _ := Same(a, b); len(w) > 0 {
		w[0] = "?"
	}
	if !sameNet(a, oldA) || !sameNet(b, oldB) || !slices.Equal(sigma, word("abc")) {
		t.Errorf("the nets have become %v, %v", a, b)
	}
	if slices.ContainsFunc(a.Arcs[len(a.Arcs):cap(a.Arcs)], func(x api.Arc) bool { return x != api.Arc{} }) || slices.ContainsFunc(a.Ends[len(a.Ends):cap(a.Ends)], func(x api.End) bool { return x != api.End{} }) {
		t.Error("something is written behind the arcs or ends")
	}
	for i, n := range calls() {
		if !sameNet(n, again[i]) {
			t.Errorf("call %d: %v, and once %v", i, n, again[i])
		}
	}
	spoil(a)
	if is, _, e := Same(again[3], over(word("abc"), of("a b ab c"))); !is || e != api.OK {
		t.Errorf("with its argument the result has become %v", again[3])
	}
}

func TestNilAndEmpty(t *testing.T) { // R4
	a := api.Net{States: 1}
	b := api.Net{Sigma: []string{}, States: 1, Arcs: []api.Arc{}, Ends: []api.End{}}
	for name, got := range ofOne(a) {
		if got != ofOne(b)[name] {
			t.Errorf("%s: %v and %v", name, got, ofOne(b)[name])
		}
	}
	taken(t, "nil and empty", ofTwo(a, b))
}
