package rel

import (
	"math"
	"slices"
	"strconv"
	"strings"
	"testing"

	"ablaut/api"
	"ablaut/auto"
	"ablaut/det"
)

// ones returns the symbols of one byte, ascending, at most n.
func ones(n int) []string {
	var l []string
	for c := 33; c <= 126 && len(l) < n; c++ {
		if c != '<' && c != '>' {
			l = append(l, string(rune(c)))
		}
	}
	return l
}

// sized returns a relation of so many states, arcs and ends, alike on both sides.
func sized(states, arcs, ends int) api.Net {
	return net(states, make([]int, ends), slices.Repeat([]api.Arc{arc(0, "a", "a", 0)}, arcs)...)
}

// outcome is what a call returned: whether its other results are zero, and its error.
type outcome struct {
	zero bool
	e    api.Errno
}

func ofNet(n api.Net, e api.Errno) outcome {
	return outcome{sameNet(n, api.Net{}), e}
}

func ofList(l [][]string, more bool, e api.Errno) outcome {
	return outcome{len(l) == 0 && !more, e}
}

// ofOne calls all functions of one relation.
func ofOne(n api.Net) map[string]outcome {
	is, e := Holds(n, nil, nil)
	calls := map[string]outcome{
		"Validate": {true, Validate(n)},
		"Holds":    {!is, e},
		"Down":     ofList(Down(n, nil, 1)),
		"Up":       ofList(Up(n, nil, 1)),
		"Image":    ofNet(Image(n, nil)),
	}
	for name, f := range one() {
		calls[name] = ofNet(f(n))
	}
	return calls
}

// one returns the functions that make a net of one.
func one() map[string]func(n api.Net) (api.Net, api.Errno) {
	return map[string]func(n api.Net) (api.Net, api.Errno){
		"Copies": Copies, "Star": Star, "Inverse": Inverse, "Upper": Upper, "Lower": Lower, "Trim": Trim,
	}
}

// two returns the functions that make a net of two.
func two() map[string]func(a, b api.Net) (api.Net, api.Errno) {
	return map[string]func(a, b api.Net) (api.Net, api.Errno){
		"Cross": Cross, "Either": Either, "Chain": Chain, "Compose": Compose, "Prior": Prior, "Lenient": Lenient,
	}
}

// ofTwo calls all functions of two relations.
func ofTwo(a, b api.Net) map[string]outcome {
	calls := map[string]outcome{}
	for name, f := range two() {
		calls[name] = ofNet(f(a, b))
	}
	return calls
}

// refused fails if one of the calls returned another error, or a result with it.
func refused(t *testing.T, what string, calls map[string]outcome, want api.Errno) {
	t.Helper()
	for name, got := range calls {
		if got != (outcome{true, want}) {
			t.Errorf("%s: %s: %v, not error %d", what, name, got, want)
		}
	}
}

// only returns some of the calls.
func only(calls map[string]outcome, names ...string) map[string]outcome {
	l := map[string]outcome{}
	for _, name := range names {
		l[name] = calls[name]
	}
	return l
}

// badNets are nets that are no relations, with their errors.
func badNets() []struct {
	n    api.Net
	want api.Errno
} {
	type bad = struct {
		n    api.Net
		want api.Errno
	}
	with := func(change func(n *api.Net)) api.Net {
		n := net(2, []int{1}, arc(0, "a", "b", 1))
		change(&n)
		return n
	}
	return []bad{
		{with(func(n *api.Net) { n.States = api.MaxStates + 1 }), api.ErrLarge},
		{with(func(n *api.Net) { n.States = math.MaxInt }), api.ErrLarge},
		{with(func(n *api.Net) { n.Arcs = slices.Repeat(n.Arcs, api.MaxArcs+1) }), api.ErrLarge},
		{with(func(n *api.Net) { n.Ends = slices.Repeat(n.Ends, api.MaxArcs+1) }), api.ErrLarge},
		{with(func(n *api.Net) { n.Sigma = ones(api.MaxSigma + 1) }), api.ErrLarge},
		{with(func(n *api.Net) { n.Sigma = []string{"a", strings.Repeat("b", api.MaxSym+1)} }), api.ErrLarge},
		{with(func(n *api.Net) { n.Sigma = []string{"b", "a"} }), api.ErrArg},
		{with(func(n *api.Net) { n.Sigma = []string{"a", "a", "b"} }), api.ErrArg},
		{with(func(n *api.Net) { n.Sigma = []string{"", "a", "b"} }), api.ErrArg},
		{with(func(n *api.Net) { n.Sigma = []string{"a", "b", "\xff"} }), api.ErrArg},
		{api.Net{}, api.ErrArg},
		{with(func(n *api.Net) { n.States = -1 }), api.ErrArg},
		{with(func(n *api.Net) { n.States = math.MinInt }), api.ErrArg},
		{with(func(n *api.Net) { n.Arcs[0].From = -1 }), api.ErrArg},
		{with(func(n *api.Net) { n.Arcs[0].From = 2 }), api.ErrArg},
		{with(func(n *api.Net) { n.Arcs[0].To = math.MinInt }), api.ErrArg},
		{with(func(n *api.Net) { n.Arcs[0].To = math.MaxInt }), api.ErrArg},
		{with(func(n *api.Net) { n.Ends[0].State = 2 }), api.ErrArg},
		{with(func(n *api.Net) { n.Ends[0].State = -1 }), api.ErrArg},
		{with(func(n *api.Net) { n.Arcs[0].In = "x" }), api.ErrArg},
		{with(func(n *api.Net) { n.Arcs[0].Out = "x" }), api.ErrArg},
		{with(func(n *api.Net) { n.Arcs[0].Out = "ab" }), api.ErrArg},
		{with(func(n *api.Net) { n.Arcs[0].Cost = 1 }), api.ErrType},
		{with(func(n *api.Net) { n.Arcs[0].Cost = math.MinInt }), api.ErrType},
		{with(func(n *api.Net) { n.Ends[0].Cost = -1 }), api.ErrType},
		{with(func(n *api.Net) { n.Ends[0].Cost = math.MaxInt }), api.ErrType},
		// Alike on both sides, a cost is wrong too.
		{with(func(n *api.Net) { n.Arcs[0].Out = "a"; n.Arcs[0].Cost = 1 }), api.ErrType},
		// Of several errors the one named first, wherever in the net it stands.
		{with(func(n *api.Net) { n.States = api.MaxStates + 1; n.Sigma = []string{"b", "a"} }), api.ErrLarge},
		{with(func(n *api.Net) { n.Ends = slices.Repeat(n.Ends, api.MaxArcs+1); n.States = 0 }), api.ErrLarge},
		{with(func(n *api.Net) { n.Sigma = ones(api.MaxSigma + 1); n.States = 0 }), api.ErrLarge},
		{with(func(n *api.Net) { n.Arcs[0].Cost = 1; n.Ends[0].State = 2 }), api.ErrArg},
		{with(func(n *api.Net) { n.Arcs[0].Cost = 1; n.Arcs = append(n.Arcs, arc(0, "a", "x", 1)) }), api.ErrArg},
	}
}

func TestValidate(t *testing.T) { // P5.1
	for i, c := range badNets() {
		if e := Validate(c.n); e != c.want {
			t.Errorf("net %d: %d, not %d", i, e, c.want)
		}
	}
	for i, n := range []api.Net{
		{States: 1},
		of("a:b ab: :c"),
		net(1, nil, arc(0, "", "a", 0), arc(0, "b", "", 0), arc(0, "", "", 0)),
		sized(api.MaxStates, api.MaxArcs, api.MaxArcs),
		{Sigma: ones(api.MaxSigma), States: 1, Arcs: []api.Arc{arc(0, ones(api.MaxSigma)[0], ones(api.MaxSigma)[api.MaxSigma-1], 0)}},
	} {
		if e := Validate(n); e != api.OK {
			t.Errorf("good net %d: %d", i, e)
		}
	}
}

func TestBadNets(t *testing.T) { // P5.2, R2
	fine := of("a:b")
	for i, c := range badNets() {
		what := "net " + strconv.Itoa(i)
		refused(t, what, ofOne(c.n), c.want)
		refused(t, what+" first", ofTwo(c.n, fine), c.want)
		refused(t, what+" second", ofTwo(fine, c.n), c.want)
	}
	large, wrong, costly := badNets()[0].n, api.Net{}, sized(1, 1, 1)
	costly.Ends[0].Cost = 1
	refused(t, "large, wrong", ofTwo(large, wrong), api.ErrLarge)
	refused(t, "wrong, large", ofTwo(wrong, large), api.ErrArg)
	refused(t, "costly, large", ofTwo(costly, large), api.ErrType)
}

func TestUnlikeAlphabets(t *testing.T) { // P5.2
	a, b := of("a:b"), of("a:b")
	b.Sigma = word("ab")
	refused(t, "a shorter one", ofTwo(a, b), api.ErrFit)
	b.Sigma = word("abd")
	refused(t, "another one", ofTwo(a, b), api.ErrFit)
	refused(t, "none", ofTwo(a, api.Net{States: 1}), api.ErrFit)
	// Ahead of what makes them no acceptors, and of their sizes.
	big := sized(api.MaxStates, api.MaxArcs, api.MaxArcs)
	big.Arcs[0].Out = "b"
	refused(t, "large", ofTwo(big, b), api.ErrFit)
	refused(t, "large second", ofTwo(b, big), api.ErrFit)
}

func TestNoAcceptors(t *testing.T) { // P5.2
	same := of("a b")
	for i, n := range []api.Net{of("a:b"), of("a:"), of(":a"), of("a b a:c")} {
		what := "net " + strconv.Itoa(i)
		refused(t, what, only(ofTwo(n, same), "Cross"), api.ErrType)
		refused(t, what, only(ofTwo(same, n), "Cross"), api.ErrType)
		refused(t, what, only(ofOne(n), "Copies"), api.ErrType)
	}
	// Ahead of the sizes.
	big := sized(api.MaxStates, api.MaxArcs, api.MaxArcs)
	refused(t, "large", only(ofTwo(big, of("a:b")), "Cross"), api.ErrType)
	refused(t, "large", only(ofTwo(big, same), "Cross"), api.ErrLarge)
}

func TestBadWords(t *testing.T) { // P5.1, P5.4, R2
	n := of("a:b")
	long := slices.Repeat([]string{"a"}, api.MaxWord+1)
	wide := []string{strings.Repeat("a", api.MaxSym+1)}
	wrong := []string{"a", "<"}
	for i, c := range []struct {
		w    []string
		want api.Errno
	}{
		{long, api.ErrLarge}, {wide, api.ErrLarge}, {wrong, api.ErrArg}, {[]string{""}, api.ErrArg}, {[]string{"\n"}, api.ErrArg},
	} {
		is, e := Holds(n, c.w, nil)
		is2, e2 := Holds(n, nil, c.w)
		refused(t, "word "+strconv.Itoa(i), map[string]outcome{
			"Holds": {!is, e}, "Holds second": {!is2, e2},
			"Down": ofList(Down(n, c.w, 0)), "Up": ofList(Up(n, c.w, 0)), "Image": ofNet(Image(sized(300, 401, 0), c.w)),
		}, c.want)
	}
	if _, e := Holds(n, wrong, long); e != api.ErrArg {
		t.Errorf("Holds: the first word's error is first: %d", e)
	}
	if _, e := Holds(api.Net{}, long, wrong); e != api.ErrArg {
		t.Errorf("Holds: the net's error is first: %d", e)
	}
}

func TestMost(t *testing.T) { // P5.4
	large := sized(api.MaxSmall+1, 0, 0)
	for _, most := range []int{0, -1, math.MinInt, api.MaxMost + 1, math.MaxInt} {
		for i, n := range []api.Net{of("a:b"), large} {
			refused(t, "net "+strconv.Itoa(i), map[string]outcome{
				"Down": ofList(Down(n, word("a"), most)), "Up": ofList(Up(n, word("x"), most)),
			}, api.ErrArg)
		}
	}
	refused(t, "large", map[string]outcome{
		"Down": ofList(Down(large, word("a"), 1)), "Up": ofList(Up(large, word("x"), api.MaxMost)),
	}, api.ErrLarge)
	for _, most := range []int{1, api.MaxMost} {
		if _, _, e := Down(sized(api.MaxSmall, 0, 0), nil, most); e != api.OK {
			t.Errorf("Down: %d", e)
		}
		if _, _, e := Up(sized(api.MaxSmall, 0, 0), nil, most); e != api.OK {
			t.Errorf("Up: %d", e)
		}
	}
}

// below returns a relation of `a` with each word of so many times `b`.
func below(lengths ...int) api.Net {
	n := net(1, nil)
	for _, length := range lengths {
		q := 0
		for i := range max(length, 1) {
			a := arc(q, "", "b", n.States)
			if i == 0 {
				a.In = "a"
			}
			if length == 0 {
				a.Out = ""
			}
			n.Arcs = append(n.Arcs, a)
			q = n.States
			n.States++
		}
		n.Ends = append(n.Ends, api.End{State: q})
	}
	return n
}

func TestLongWords(t *testing.T) { // P5.4
	for i, c := range []struct {
		lengths []int
		most    int
		want    []int
		more    bool
		e       api.Errno
	}{
		{[]int{api.MaxWord}, 1, []int{api.MaxWord}, false, api.OK},
		{[]int{api.MaxWord, 0}, 2, []int{0, api.MaxWord}, false, api.OK},
		{[]int{api.MaxWord + 1}, 1, nil, false, api.ErrLarge},
		{[]int{api.MaxWord + 3}, 1, nil, false, api.ErrLarge},
		{[]int{3, api.MaxWord + 1}, 2, nil, false, api.ErrLarge},
		{[]int{3, 2 * api.MaxWord}, 2, nil, false, api.ErrLarge},
		// A long word beyond the first ones is one more.
		{[]int{3, api.MaxWord + 1}, 1, []int{3}, true, api.OK},
		{[]int{3, 2 * api.MaxWord}, 1, []int{3}, true, api.OK},
		{[]int{3, api.MaxWord, api.MaxWord + 1}, 2, []int{3, api.MaxWord}, true, api.OK},
	} {
		var want [][]string
		for _, length := range c.want {
			want = append(want, slices.Repeat([]string{"b"}, length))
		}
		n := below(c.lengths...)
		l, more, e := Down(n, word("a"), c.most)
		if !same(l, want) || more != c.more || e != c.e {
			t.Errorf("%d: Down: %v %v %d", i, l, more, e)
		}
		l, more, e = Up(good(t)(Inverse(n)), word("a"), c.most)
		if !same(l, want) || more != c.more || e != c.e {
			t.Errorf("%d: Up: %v %v %d", i, l, more, e)
		}
	}
	// Words of each 40th length: the second one is too long.
	ring := net(40, []int{0})
	for q := range 40 {
		ring.Arcs = append(ring.Arcs, arc(q, "", "b", (q+1)%40))
	}
	if l, more, e := Down(ring, nil, 2); !same(l, [][]string{nil, slices.Repeat([]string{"b"}, 40)}) || !more || e != api.OK {
		t.Errorf("ring: %v %v %d", l, more, e)
	}
	refused(t, "ring", map[string]outcome{"Down": ofList(Down(ring, nil, 3))}, api.ErrLarge)
	// Rings of symbols that are read are no ways to longer words below.
	if l, more, e := Down(good(t)(Inverse(ring)), nil, 3); !same(l, [][]string{nil}) || more || e != api.OK {
		t.Errorf("inverse ring: %v %v %d", l, more, e)
	}
}

func TestTogether(t *testing.T) { // P5.3
	const half, arcs = api.MaxSmall / 2, maxTogether
	put := func(a, b api.Net) map[string]outcome { return only(ofTwo(a, b), "Cross", "Either", "Chain") }
	for name, c := range map[string]struct {
		a, b api.Net
		want api.Errno
	}{
		"the most states":      {sized(half, 1, 1), sized(half, 1, 1), api.OK},
		"too many states":      {sized(half, 1, 1), sized(half+1, 1, 1), api.ErrLarge},
		"too many in one":      {sized(1, 1, 1), sized(api.MaxSmall, 1, 1), api.ErrLarge},
		"the most in one":      {sized(api.MaxSmall-1, 1, 1), sized(1, 1, 1), api.OK},
		"the most arcs":        {sized(1, arcs-1, 1), sized(1, 1, 1), api.OK},
		"too many arcs":        {sized(1, arcs-1, 1), sized(1, 2, 1), api.ErrLarge},
		"the most ends":        {sized(1, 1, 1), sized(1, 1, arcs-1), api.OK},
		"too many ends":        {sized(1, 1, arcs), sized(1, 1, 1), api.ErrLarge},
		"the most of all":      {sized(half, arcs/2, arcs), sized(half, arcs/2, 0), api.OK},
		"the most of all last": {sized(half, arcs/2, 0), sized(half, arcs/2, arcs), api.OK},
	} {
		for f, got := range put(c.a, c.b) {
			if got.e != c.want || got.zero != (c.want != api.OK) {
				t.Errorf("%s: %s: %v, not error %d", name, f, got, c.want)
			}
		}
	}
	for name, c := range map[string]struct {
		n    api.Net
		want api.Errno
	}{
		"the most":        {sized(api.MaxSmall, maxTogether, maxTogether), api.OK},
		"too many states": {sized(api.MaxSmall+1, 1, 1), api.ErrLarge},
		"too many arcs":   {sized(1, maxTogether+1, 1), api.ErrLarge},
		"too many ends":   {sized(1, 1, maxTogether+1), api.ErrLarge},
	} {
		if got := ofNet(Star(c.n)); got.e != c.want || got.zero != (c.want != api.OK) {
			t.Errorf("Star: %s: %v, not error %d", name, got, c.want)
		}
	}
}

// TestResultsAreNets has nets whose ends are as many, and all unlike, as they may be.
func TestResultsAreNets(t *testing.T) { // P5.3
	all := func(states, arcs int) api.Net {
		n := sized(states, arcs, 0)
		for i := range maxTogether / 2 {
			n.Ends = append(n.Ends, api.End{State: i % states})
		}
		return n
	}
	a, b := all(100, maxTogether/2), all(200, maxTogether/2)
	for name, f := range two() {
		if name == "Cross" || name == "Either" || name == "Chain" {
			good(t)(f(a, b))
		}
	}
	good(t)(Star(all(api.MaxSmall, maxTogether)))
	ends := sized(30, 100, api.MaxArcs)
	for i := range ends.Ends {
		ends.Ends[i].State = i % 30
	}
	for name, f := range two() {
		if name == "Compose" || name == "Prior" || name == "Lenient" {
			good(t)(f(ends, sized(33, 40, api.MaxArcs)))
		}
	}
}

func TestOneSide(t *testing.T) { // P5.3
	large := sized(api.MaxSmall+1, 1, 1)
	refused(t, "states", only(ofOne(large), "Upper", "Lower", "Star"), api.ErrLarge)
	small := sized(api.MaxSmall, api.MaxArcs, api.MaxArcs)
	for name, got := range only(ofOne(small), "Upper", "Lower") {
		if got.e != api.OK {
			t.Errorf("%s: %d", name, got.e)
		}
	}
	// These have no bound of their own.
	greatest := sized(api.MaxStates, api.MaxArcs, api.MaxArcs)
	for name, got := range only(ofOne(greatest), "Copies", "Inverse", "Trim", "Holds") {
		if got.e != api.OK {
			t.Errorf("%s: %d", name, got.e)
		}
	}
}

func TestProducts(t *testing.T) { // P5.3
	for name, c := range map[string]struct {
		a, b api.Net
		want api.Errno
	}{
		"the most states":          {sized(25, 1, 1), sized(40, 1, 1), api.OK},
		"too many states":          {sized(11, 1, 1), sized(91, 1, 1), api.ErrLarge},
		"the most arcs":            {sized(1, 80, 1), sized(1, 100, 1), api.OK},
		"too many arcs":            {sized(1, 1, 1), sized(1, 8001, 1), api.ErrLarge},
		"too many arcs in a":       {sized(1, 127, 1), sized(1, 63, 1), api.ErrLarge},
		"the most arcs and states": {sized(1, 400, 1), sized(10, 1, 1), api.OK},
		"too many arcs of a":       {sized(1, 4001, 1), sized(1, 1, 1), api.ErrLarge},
		"too many arcs of b":       {sized(1, 1, 1), sized(1, 4001, 1), api.ErrLarge},
		"the most states and arcs": {sized(10, 1, 1), sized(1, 400, 1), api.OK},
		"arcs and states":          {sized(1, 364, 1), sized(11, 1, 1), api.ErrLarge},
		"states and arcs":          {sized(11, 1, 1), sized(1, 364, 1), api.ErrLarge},
		"all at once":              {sized(31, 80, 1), sized(32, 100, 1), api.OK},
	} {
		for f, got := range only(ofTwo(c.a, c.b), "Compose", "Prior", "Lenient") {
			if got.e != c.want || got.zero != (c.want != api.OK) {
				t.Errorf("%s: %s: %v, not error %d", name, f, got, c.want)
			}
		}
	}
	// More than MaxSmall states in one of them.
	large, one := sized(api.MaxSmall+1, 1, 1), sized(1, 1, 1)
	for name, c := range map[string][2]api.Net{"a": {large, one}, "b": {one, large}} {
		refused(t, name, only(ofTwo(c[0], c[1]), "Prior", "Lenient"), api.ErrLarge)
		if got := ofNet(Compose(c[0], c[1])); got.e != api.OK {
			t.Errorf("%s: Compose: %v", name, got)
		}
	}
	small := sized(api.MaxSmall, 1, 1)
	for name, c := range map[string][2]api.Net{"a": {small, one}, "b": {one, small}} {
		for f, got := range only(ofTwo(c[0], c[1]), "Prior", "Lenient") {
			if got.e != api.OK {
				t.Errorf("%s: %s: %v", name, f, got)
			}
		}
	}
}

// fromBehind returns a relation of the words over `a`, `b` whose symbol at this place from behind is `a`: its minimal acceptor has 2^k states.
func fromBehind(k int) api.Net {
	n := net(k+1, []int{k}, arc(0, "a", "c", 0), arc(0, "b", "", 0), arc(0, "a", "", 1))
	for q := 1; q < k; q++ {
		n.Arcs = append(n.Arcs, arc(q, "a", "", q+1), arc(q, "b", "c", q+1))
	}
	return n
}

func TestSubsets(t *testing.T) { // P5.3
	many, few := fromBehind(12), fromBehind(5)
	letters := net(1, []int{0}, arc(0, "a", "b", 0), arc(0, "b", "a", 0), arc(0, "c", "c", 0))
	// However it is made, an acceptor of these words has 2^12 subsets, whether or not the other relation comes to any.
	for name, b := range map[string]api.Net{"letters": letters, "nothing": net(1, nil), "the empty words": of(":")} {
		refused(t, "Prior of "+name, only(ofTwo(many, b), "Prior"), api.ErrLarge)
	}
	refused(t, "Lenient", only(ofTwo(many, letters), "Lenient"), api.ErrLarge)
	refused(t, "Lenient", only(ofTwo(letters, good(t)(Compose(letters, many))), "Lenient"), api.ErrLarge)
	// 2^5 are few; and b of Prior, and a of Lenient, may have many.
	for name, n := range map[string]api.Net{
		"few":           good(t)(Prior(few, letters)),
		"many behind":   good(t)(Prior(letters, many)),
		"lenient":       good(t)(Lenient(few, letters)),
		"lenient ahead": good(t)(Lenient(letters, few)),
	} {
		if Validate(n) != api.OK {
			t.Errorf("%s: %v", name, n)
		}
	}
	n := good(t)(Prior(few, letters))
	for _, c := range []struct {
		x, y string
		want bool
	}{
		{"abbbb", "cccc", true}, {"abbbb", "baaaa", false}, {"babbb", "baaaa", false}, {"babbb", "abaaa", true}, {"abbb", "baaa", true},
	} {
		if is, e := Holds(n, word(c.x), word(c.y)); is != c.want || e != api.OK {
			t.Errorf("Prior: %q, %q: %v %d", c.x, c.y, is, e)
		}
	}
}

// ring returns a relation of all words whose number of `a` can be divided by a length, with as many `b`.
func ring(length int) api.Net {
	n := net(length, []int{0})
	for q := range length {
		n.Arcs = append(n.Arcs, arc(q, "a", "b", (q+1)%length))
	}
	return n
}

// TestLargeCompositions has compositions of more states than det takes.
func TestLargeCompositions(t *testing.T) { // P5.2, P5.3
	a, b := good(t)(Inverse(ring(31))), ring(32)
	n := good(t)(Lenient(a, good(t)(Compose(b, ring(1))))) // nothing is between, but for the empty word
	if got := list(pairsOf(n, 62, 62)); got != list(pairsOf(a, 62, 62)) {
		t.Errorf("Lenient: %s", got)
	}
	// a has `b` 31 times as often as one likes, b takes `a` 32 times: together 992 times, which is the first one that is not a's.
	n = good(t)(Lenient(a, b))
	all := pairsOf(n, 992, 992)
	for many := range 33 {
		x, y := strings.Repeat("b", 31*many), strings.Repeat("a", 31*many)
		if all[held{x, y}] != (many < 32) && many > 0 {
			t.Errorf("Lenient: %d times", 31*many)
		}
	}
	if x := strings.Repeat("b", 992); !all[held{x, x}] || len(all) != 33 {
		t.Errorf("Lenient holds %d pairs", len(all))
	}
	// With few subsets, and with too many.
	wide := net(31, []int{30})
	for q := range 30 {
		wide.Arcs = append(wide.Arcs, arc(q, "a", "a", q+1), arc(q, "b", "a", q+1))
	}
	few := net(32, nil)
	for q := range 31 {
		few.Arcs = append(few.Arcs, arc(q, "", "", q+1))
		few.Ends = append(few.Ends, api.End{State: q})
	}
	few.Arcs = append(few.Arcs, arc(31, "a", "", 0), arc(0, "a", "", 0))
	few.Ends = append(few.Ends, api.End{State: 31})
	c := good(t)(Compose(wide, few))
	if c.States <= api.MaxSmall {
		t.Errorf("only %d states", c.States)
	}
	n = good(t)(Lenient(wide, few))
	for _, p := range []struct {
		x, y string
		want bool
	}{
		{strings.Repeat("ab", 15), "", true}, {strings.Repeat("ab", 15), strings.Repeat("a", 30), false}, {"ab", "", false},
	} {
		if is, e := Holds(n, word(p.x), word(p.y)); is != p.want || e != api.OK {
			t.Errorf("Lenient: %q, %q: %v %d", p.x, p.y, is, e)
		}
	}
	long, loop := fromBehind(15), net(30, []int{29})
	for q := range 29 {
		loop.Arcs = append(loop.Arcs, arc(q, "", "", q+1))
	}
	loop.Arcs = append(loop.Arcs, arc(29, "c", "a", 0))
	if c := good(t)(Compose(long, loop)); c.States <= api.MaxSmall {
		t.Errorf("only %d states", c.States)
	}
	refused(t, "many subsets", map[string]outcome{"Lenient": ofNet(Lenient(long, loop))}, api.ErrLarge)
}

// TestTooLargeResults has small nets whose result has more states, or arcs, than a net may have: each of many subsets stands with each state, and each arc, of b.
func TestTooLargeResults(t *testing.T) { // P5.3
	two := net(2, []int{0}, arc(0, "a", "b", 1), arc(1, "b", "a", 0), arc(0, "b", "c", 1), arc(1, "a", "c", 0))
	sigma := append(word("abc"), strings.Split("defghijklmnopqrstuvwxyz", "")...)
	a, star := fromBehind(11), api.Net{Sigma: sigma, States: 1, Ends: []api.End{{}}}
	for _, s := range sigma {
		star.Arcs = append(star.Arcs, arc(0, "a", s, 0), arc(0, "b", s, 0))
	}
	refused(t, "states", map[string]outcome{"Prior": ofNet(Prior(a, two))}, api.ErrLarge)
	a.Sigma = sigma
	refused(t, "arcs", map[string]outcome{"Prior": ofNet(Prior(a, star))}, api.ErrLarge)
	// With half as many subsets both have room.
	a = fromBehind(10)
	good(t)(Prior(a, two))
	a.Sigma = sigma
	good(t)(Prior(a, star))
}

// TestNeverLarge has nets of the sizes for which the chapter rules ErrLarge out.
func TestNeverLarge(t *testing.T) { // P5.3
	// The nets that are made have other sizes: these all have just 6 states (or 3) and 40 arcs.
	roll := dice(6)
	sigma := ones(api.MaxSigma)
	full := func(states, symbols int) api.Net {
		n := api.Net{Sigma: sigma, States: states}
		symbol := func() string {
			if roll(8) == 0 {
				return ""
			}
			return sigma[roll(symbols)]
		}
		for range 40 {
			n.Arcs = append(n.Arcs, api.Arc{From: roll(states), In: symbol(), Out: symbol(), To: roll(states)})
		}
		for q := range states {
			if roll(2) == 0 {
				n.Ends = append(n.Ends, api.End{State: q})
			}
		}
		return n
	}
	subsets := 0
	for i := range 600 {
		symbols := []int{1, 2, 4, 10, api.MaxSigma}[i%5]
		a, b := full(6, symbols), full(6, symbols)
		good(t)(Prior(a, b))
		a, b = full(3, symbols), full(3, symbols)
		good(t)(Lenient(a, b))
		m, _ := det.Min(good(t)(Upper(good(t)(Compose(a, b)))))
		subsets = max(subsets, m.States)
	}
	if subsets < 20 {
		t.Errorf("at most %d subsets: too few to tell", subsets)
	}
	// All 2^5 subsets with the states of b.
	a, b := fromBehind(5), fromBehind(5)
	good(t)(Prior(a, b))
}

func TestImageSizes(t *testing.T) { // P5.4
	x := slices.Repeat([]string{"a"}, api.MaxWord)
	ring := sized(maxImageStates, 0, 0)
	for q := range maxImageStates {
		for i := range 10 {
			ring.Arcs = append(ring.Arcs, arc(q, "", "b", (q+i)%maxImageStates))
		}
		ring.Arcs[10*q].In = "a"
		ring.Ends = append(ring.Ends, api.End{State: q})
	}
	n := good(t)(Image(ring, x))
	if auto.Validate(n) != api.OK {
		t.Errorf("Image: %d states, %d arcs", n.States, len(n.Arcs))
	}
	for name, m := range map[string]api.Net{"states": sized(maxImageStates+1, 1, 1), "arcs": sized(1, maxImageArcs+1, 1)} {
		refused(t, name, map[string]outcome{"Image": ofNet(Image(m, x)), "of another word": ofNet(Image(m, word("x")))}, api.ErrLarge)
	}
	// Ends have no bound of their own.
	good(t)(Image(sized(maxImageStates, maxImageArcs, api.MaxArcs), x))
}

// TestMemory changes what was returned, and looks whether anything else changes with it.
func TestMemory(t *testing.T) { // R5
	spoil := func(n api.Net) {
		n.Sigma = n.Sigma[:cap(n.Sigma)]
		for i := range n.Sigma {
			n.Sigma[i] = "z"
		}
		for i := range n.Arcs {
			n.Arcs[i] = api.Arc{From: -1, In: "z"}
		}
		for i := range n.Ends {
			n.Ends[i].State = -1
		}
	}
	a, b := of("a b ab"), of("b c")
	calls := map[string]func() api.Net{
		"Image": func() api.Net { return good(t)(Image(a, word("ab"))) },
	}
	for name, f := range one() {
		calls[name] = func() api.Net { return good(t)(f(a)) }
	}
	for name, f := range two() {
		calls[name] = func() api.Net { return good(t)(f(a, b)) }
	}
	for name, f := range calls {
		first := f()
		second := f()
		if !sameNet(first, second) {
			t.Errorf("%s: equal calls have unlike results", name)
		}
		spoil(first)
		if !sameNet(a, of("a b ab")) || !sameNet(b, of("b c")) || !sameNet(second, f()) {
			t.Fatalf("%s: the result shares memory", name)
		}
	}
	l, _, _ := Down(of("a:bc a:bb a:b"), word("a"), 3)
	for i := range l {
		l[i] = append(l[i], "z")
		l[i][0] = "z"
	}
	if !same(l, wordsOf("zz zbz zcz")) {
		t.Errorf("Down: words share memory: %q", l)
	}
}

// TestGreatest has nets that are as large as they may be, and have as many ways as such nets can have: the calls must end in good time.
func TestGreatest(t *testing.T) { // P1
	roll := dice(7)
	dense := func(states, arcs int, sigma []string, quiet int) api.Net {
		n := api.Net{Sigma: sigma, States: states}
		for range arcs {
			a := api.Arc{From: roll(states), In: sigma[roll(len(sigma))], Out: sigma[roll(len(sigma))], To: roll(states)}
			if roll(10) < quiet {
				a.Out = ""
			}
			if roll(10) == 0 {
				a.In = ""
			}
			n.Arcs = append(n.Arcs, a)
		}
		n.Ends = append(n.Ends, api.End{State: states - 1})
		return n
	}
	for _, sigma := range [][]string{{"a"}, {"a", "b"}, ones(api.MaxSigma)} {
		for _, quiet := range []int{0, 5, 10} {
			x := slices.Repeat(sigma[:1], api.MaxWord)
			n := dense(api.MaxStates, api.MaxArcs, sigma, quiet)
			if _, e := Holds(n, x, x); e != api.OK {
				t.Errorf("Holds: %d", e)
			}
			good(t)(Trim(n))
			good(t)(Inverse(n))
			n = dense(api.MaxSmall, api.MaxArcs, sigma, quiet)
			// Of one symbol there are not so many words of at most MaxWord symbols.
			for _, f := range []func(api.Net, []string, int) ([][]string, bool, api.Errno){Down, Up} {
				if l, more, e := f(n, x, api.MaxMost); e != api.OK && (e != api.ErrLarge || len(sigma) > 1) {
					t.Errorf("%d words, %v %d", len(l), more, e)
				}
			}
			good(t)(Star(dense(api.MaxSmall, maxTogether, sigma, quiet)))
			good(t)(Compose(dense(31, 80, sigma, quiet), dense(32, 100, sigma, quiet)))
			Prior(dense(12, 52, sigma, quiet), dense(76, 150, sigma, quiet))
			Lenient(dense(12, 52, sigma, quiet), dense(76, 150, sigma, quiet))
		}
	}
}

// TestOneByOne has a crowd of states in which the symbols of a word are read one after the other, without writing, and which each of very many beginnings of long words comes to.
func TestOneByOne(t *testing.T) { // P1
	const first, behind = 100, 270 // of the crowd, and behind it
	n := net(api.MaxSmall, []int{61})
	for p := first; p < behind; p++ {
		for q := first; q < behind; q++ {
			n.Arcs = append(n.Arcs, arc(p, "a", "", q))
		}
	}
	for q := range api.MaxWord {
		n.Arcs = append(n.Arcs, arc(q, "", "b", q+1))
		if q < 8 {
			n.Arcs = append(n.Arcs, arc(q, "", "c", q+1))
		}
		for p := first; p < behind; p++ {
			n.Arcs = append(n.Arcs, arc(q, "a", "", p))
		}
	}
	n.Arcs = append(n.Arcs, arc(60, "a", "", 60), arc(60, "", "", 61))
	x := slices.Repeat([]string{"a"}, api.MaxWord)
	for _, way := range []api.Arc{arc(61, "", "", 61), arc(first, "", "", 61), arc(first, "c", "", 61)} {
		// The crowd leads to no end, to one, or to one behind another symbol.
		m := auto.Copy(n)
		m.Arcs = append(m.Arcs, way)
		l, more, e := Down(m, x, api.MaxMost)
		if len(l) != api.MaxMost || !more || e != api.OK {
			t.Errorf("%v: %d words, %v %d", way, len(l), more, e)
		}
		if is, e := Holds(m, x, slices.Repeat([]string{"b"}, api.MaxWord)); !is || e != api.OK {
			t.Errorf("%v: Holds: %v %d", way, is, e)
		}
	}
}
