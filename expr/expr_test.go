package expr

import (
	"slices"
	"strings"
	"testing"

	"ablaut/api"
	"ablaut/auto"
)

// word returns the word of symbols of one byte.
func word(s string) []string {
	if s == "" {
		return nil
	}
	return strings.Split(s, "")
}

// mustText returns the text of a valid expression.
func mustText(t *testing.T, e api.Expr) string {
	t.Helper()
	s, err := Text(e)
	if err != api.OK {
		t.Fatalf("Text of %v: %d", e, err)
	}
	return s
}

// mustParse returns the expression of a text that has one.
func mustParse(t *testing.T, s string) api.Expr {
	t.Helper()
	e, at, err := Parse(s)
	if at != 0 || err != api.OK {
		t.Fatalf("Parse of %q: %d %d", s, at, err)
	}
	return e
}

// sym returns the expression of a symbol, leaf that of a node without others.
func sym(s string) api.Expr { return api.Expr{Op: api.ESym, S: s} }
func leaf(op int) api.Expr  { return api.Expr{Op: op} }

// nested returns a value of so many nodes in each other.
func nested(op, nest int) api.Expr {
	e := sym("a")
	for range nest - 1 {
		e = api.Expr{Op: op, L: []api.Expr{e}}
	}
	return e
}

// beside returns a node of so many others that are symbols.
func beside(op, many int) api.Expr {
	return node(op, slices.Repeat([]api.Expr{sym("a")}, many)...)
}

// copied returns the same value in other memory.
func copied(e api.Expr) api.Expr {
	e.L = slices.Clone(e.L)
	for i, x := range e.L {
		e.L[i] = copied(x)
	}
	return e
}

// outcome is what a call returned: whether its other results are zero, and its error.
type outcome struct {
	zero bool
	err  api.Errno
}

func isZero(e api.Expr) bool { return Same(e, api.Expr{}) }

func isZeroNet(n api.Net) bool {
	return len(n.Sigma) == 0 && n.States == 0 && len(n.Arcs) == 0 && len(n.Ends) == 0
}

// calls calls all functions that take an expression and return an error.
func calls(e api.Expr) map[string]outcome {
	s, err1 := Text(e)
	l, err2 := Symbols(e)
	is, err3 := Holds(e, word("abc"), nil)
	n, err4 := Compile(e, word("abc"))
	x, err5 := Simple(e)
	return map[string]outcome{
		"Validate": {true, Validate(e)},
		"Text":     {s == "", err1},
		"Symbols":  {len(l) == 0, err2},
		"Holds":    {!is, err3},
		"Compile":  {isZeroNet(n), err4},
		"Simple":   {isZero(x), err5},
	}
}

// refused fails if a call with the value returned another error, or a result with it.
func refused(t *testing.T, what string, e api.Expr, want api.Errno) {
	t.Helper()
	for name, got := range calls(e) {
		if got != (outcome{true, want}) {
			t.Errorf("%s: %s: %v, not error %d", what, name, got, want)
		}
	}
}

// taken fails if a call with the value returned an error other than ErrLarge of Compile, which is free.
func taken(t *testing.T, what string, e api.Expr) {
	t.Helper()
	for name, got := range calls(e) {
		if got.err != api.OK && (name != "Compile" || got.err != api.ErrLarge) {
			t.Errorf("%s: %s: error %d", what, name, got.err)
		}
	}
}

func TestValidate(t *testing.T) { // P4.1
	least := map[int]int{
		api.ESym: 0, api.EAny: 0, api.ENone: 0, api.EVoid: 0, api.EChain: 2, api.EOr: 2, api.EAnd: 2, api.EBut: 2,
		api.EStar: 1, api.EPlus: 1, api.EOpt: 1, api.ENot: 1, api.EHas: 1, api.EIgnore: 2, api.EOnly: 3, api.EShuffle: 2,
	}
	for op := -1; op <= 17; op++ {
		for many := range 6 {
			e := beside(op, many)
			if op == api.ESym {
				e.S = "a"
			}
			want, is := least[op]
			more := op == api.EChain || op == api.EOr || op == api.EAnd
			if is && (many == want || more && many > want) {
				taken(t, "an operation with its list", e)
				e.S = "b"
				if op != api.ESym {
					refused(t, "an S that is to be empty", e, api.ErrArg)
				}
			} else {
				refused(t, "an operation with another list", e, api.ErrArg)
				refused(t, "the same further in", node(api.EStar, node(api.EOr, sym("a"), e)), api.ErrArg)
			}
		}
	}
	for _, s := range []string{"a", "Z", "0", "~", "!", "[", "\\", "+Pl", "1234567890123456"} {
		e := sym(s)
		if err := Validate(e); err != api.OK {
			t.Errorf("the symbol %q: %d", s, err)
		}
	}
	for _, s := range []string{"", " ", "a b", "<", "<ab>", ">", "ä", "\x7f", "\n", "12345678901234567", strings.Repeat("a", 1000)} {
		refused(t, "no symbol: "+s, sym(s), api.ErrArg)
	}
	refused(t, "another operation", leaf(1<<62), api.ErrArg)
	refused(t, "another operation", leaf(-1<<63), api.ErrArg)
	taken(t, "empty lists", api.Expr{Op: api.EStar, L: []api.Expr{{Op: api.EAny, L: []api.Expr{}}}})
}

func TestLarge(t *testing.T) { // P4.1
	taken(t, "nodes", beside(api.EOr, api.MaxNodes-1))
	refused(t, "nodes", beside(api.EOr, api.MaxNodes), api.ErrLarge)
	taken(t, "nodes in two", node(api.EOr, beside(api.EAnd, 18), beside(api.EAnd, 19)))
	refused(t, "nodes in two", node(api.EOr, beside(api.EAnd, 19), beside(api.EAnd, 19)), api.ErrLarge)
	taken(t, "nodes in each other", nested(api.ENot, api.MaxNest))
	refused(t, "nodes in each other", nested(api.ENot, api.MaxNest+1), api.ErrLarge)
	refused(t, "nodes in each other, behind others", node(api.EOr, sym("a"), nested(api.ENot, api.MaxNest)), api.ErrLarge)
	// What is too large is named ahead of what is no expression, wherever they stand.
	refused(t, "large, and none", beside(99, api.MaxNodes), api.ErrLarge)
	refused(t, "none, and large", node(api.EOr, leaf(99), nested(api.ENot, api.MaxNest)), api.ErrLarge)
	refused(t, "large, and none further in", nested(99, api.MaxNest+1), api.ErrLarge)
	refused(t, "as large as may be, and none", nested(99, api.MaxNest), api.ErrArg)
}

// great returns values far beyond what an expression may be.
func great() []api.Expr {
	round := api.Expr{Op: api.EStar, L: make([]api.Expr, 1)}
	round.L[0] = api.Expr{Op: api.EStar, L: round.L}
	twice := sym("a")
	for range 80 {
		twice = node(api.EOr, twice, twice)
	}
	return []api.Expr{beside(api.EOr, 1000000), nested(api.ENot, 1<<16), round, twice}
}

func TestGreat(t *testing.T) { // P1, P4.1
	for i, e := range great() {
		if i < 2 { // the others have more nodes than anything can count
			if !Same(e, e) || Same(e, node(api.EStar, e)) {
				t.Errorf("Same of %d", i)
			}
		}
		refused(t, "a great value", e, api.ErrLarge)
	}
}

func TestSize(t *testing.T) { // P4.1
	for _, c := range []struct {
		e    api.Expr
		want int
	}{
		{api.Expr{}, 1},
		{sym("a"), 1},
		{api.Expr{Op: -7, S: "no symbol", L: []api.Expr{}}, 1},
		{api.Expr{Op: api.EAny, L: []api.Expr{{Op: 99}, {Op: 98, L: []api.Expr{{}, {}}}}}, 5},
		{beside(api.EChain, 40), 41},
		{nested(77, 1<<16), 1 << 16},
		{node(api.EOr, beside(api.EOr, 3), nested(api.ENot, 4), beside(api.EOnly, 0)), 10},
	} {
		if got := Size(c.e); got != c.want {
			t.Errorf("Size: %d, not %d", got, c.want)
		}
	}
}

func TestSame(t *testing.T) { // P4.1
	e := node(99, sym("a"), node(api.EOr, sym("b"), leaf(api.EAny)), api.Expr{S: "x y"})
	if !Same(e, e) || !Same(e, copied(e)) || !Same(api.Expr{}, api.Expr{}) {
		t.Error("a value and itself")
	}
	for name, change := range map[string]func(e *api.Expr){
		"the operation":             func(e *api.Expr) { e.Op++ },
		"the text":                  func(e *api.Expr) { e.S = "a" },
		"an operation further in":   func(e *api.Expr) { e.L[1].L[1].Op++ },
		"a text further in":         func(e *api.Expr) { e.L[1].L[0].S = "" },
		"one more":                  func(e *api.Expr) { e.L = append(e.L, api.Expr{}) },
		"one less":                  func(e *api.Expr) { e.L = e.L[:2] },
		"none":                      func(e *api.Expr) { e.L = nil },
		"one more further in":       func(e *api.Expr) { e.L[0].L = make([]api.Expr, 1) },
		"the order":                 func(e *api.Expr) { e.L[0], e.L[1] = e.L[1], e.L[0] },
		"the order of what is last": func(e *api.Expr) { slices.Reverse(e.L[1].L) },
	} {
		x := copied(e)
		change(&x)
		if Same(e, x) || Same(x, e) {
			t.Errorf("%s makes no difference", name)
		}
	}
	x := copied(e)
	x.L[0].L = []api.Expr{}
	if !Same(e, x) || !Same(x, e) || !Same(api.Expr{L: []api.Expr{}}, api.Expr{}) {
		t.Error("an empty list is not as none")
	}
}

func TestSymbols(t *testing.T) { // P4.3
	for text, want := range map[string]string{
		"a":                          "a",
		".":                          "",
		"[] ! .*":                    "",
		"b a b":                      "a b",
		"~[<+Pl> => c | a _ <ab>*a]": "+Pl a ab c",
		`\+ \~ Z z 9`:                "+ 9 Z z ~",
	} {
		if l, err := Symbols(mustParse(t, text)); strings.Join(l, " ") != want || err != api.OK {
			t.Errorf("Symbols of %s: %q %d", text, l, err)
		}
	}
	// As many as there may be.
	e := leaf(api.EOr)
	for c := range api.MaxNodes - 1 {
		e.L = append(e.L, sym("x"+string(rune('A'+c))))
	}
	if l, err := Symbols(e); len(l) != api.MaxNodes-1 || err != api.OK {
		t.Errorf("Symbols: %d %d", len(l), err)
	}
}

func TestExamples(t *testing.T) { // the chapter's examples
	e := mustParse(t, "a => b _ c")
	if !Same(e, node(api.EOnly, sym("a"), sym("b"), sym("c"))) {
		t.Errorf("Parse: %v", e)
	}
	for s, want := range map[string]bool{"": true, "b": true, "bac": true, "a": false, "ba": false, "ac": false, "bacbac": true, "bacac": false, "cbacb": true} {
		if is, err := Holds(e, word("abc"), word(s)); is != want || err != api.OK {
			t.Errorf("a => b _ c: %q: %v %d", s, is, err)
		}
	}
	e = mustParse(t, "[a b] / x")
	if !Same(e, node(api.EIgnore, node(api.EChain, sym("a"), sym("b")), sym("x"))) {
		t.Errorf("Parse: %v", e)
	}
	for s, want := range map[string]bool{"xaxxb": true, "ab": true, "abx": true, "xx": false, "xaxx": false, "abxb": false, "xbxa": false} {
		if is, err := Holds(e, word("abx"), word(s)); is != want || err != api.OK {
			t.Errorf("[a b] / x: %q: %v %d", s, is, err)
		}
	}
}

func TestHolds(t *testing.T) { // P4.4
	long := strings.Repeat("ab", 30)
	for _, c := range []struct{ text, sigma, yes, no string }{
		{"a", "ab", "a", "- b aa ab"},
		{".", "ab", "a b", "- aa"},
		{".", "", "", "-"},
		{"[]", "a", "-", "a"},
		{"!", "a", "", "- a"},
		{"ab.", "abc", "aba abc", "ab abab bac"},
		{"a | b | []", "abc", "- a b", "c ab"},
		{".. & .a & b.", "abc", "ba", "bb aa"},
		{".* - a*", "ab", "b ab " + long, "- a aa"},
		{"[ab]*", "ab", "- ab abab " + long, "a aba ba"},
		{"[ab]+", "ab", "ab abab " + long, "- a aba"},
		{"[a*]+", "ab", "- a aaa", "b"},
		{"[ab]?", "ab", "- ab", "a abab"},
		{"~[ab]", "ab", "- a b abab " + long, "ab"},
		{"~.*", "", "", "-"},
		{"$[ab]", "ab", "ab aab abb " + long, "- a ba bbaa"},
		{"$[]", "ab", "- a", ""},
		{"$!", "ab", "", "- a"},
		// One word put in stands beside another one, not in it.
		{"c / [ab]", "abc", "c abc cab abcab ababcabab", "- ab aabbc acb abca caabb"},
		{"[ab] / [ab]", "ab", "ab abab aabb ababab aabbab", "- ba aab aaabbb abba"},
		{"! / a", "a", "", "- a"},
		{"[] / a", "ab", "- a aa", "b ab"},
		{"a / []", "a", "a", "- aa"},
		// Each of them, where words overlap too; what is beside a word may be anything.
		{"a => b _", "ab", "- b ba bba baba", "a ab baa"},
		{"a => _ b", "ab", "- b ab abb abab", "a ba aab"},
		{"a => _", "ab", "- a aa ba", ""},
		{"a.b => c _ c", "abc", "- ab cabbc caabc caabccacbc", "aab aabc caab caaab cabbb caacbc"},
		{"[] => a _ b", "ab", "", "- a ab aba aabb"},
		{"[] => a | [] _ b | []", "ab", "- a ab ba", ""},
		{"a => ab _ ba", "ab", "- bb", "a abaabba abaaba abab"},
		{"ab % cd", "abcd", "abcd acbd acdb cadb cdab cabd", "- ab cd bacd abdc abcdab"},
		{"a* % b*", "abc", "- a b abba bbaa", "c abc"},
		{"! % a", "a", "", "- a"},
		{"[] % a", "a", "a", "- aa"},
		{"[ab | cd] % [a | c]", "abcd", "aab aba cdc ccd cab abc acb", "ab cd bac dcc"},
		{"<+Pl>a", "a", "", ""},
	} {
		e := mustParse(t, c.text)
		sigma := word(c.sigma)
		if c.yes == "" && c.no == "" {
			if is, err := Holds(e, []string{"+Pl", "a"}, []string{"+Pl", "a"}); !is || err != api.OK {
				t.Errorf("%s: %v %d", c.text, is, err)
			}
		}
		for i, l := range [][]string{strings.Fields(c.yes), strings.Fields(c.no)} {
			for _, s := range l {
				w := word(strings.Trim(s, "-"))
				if is, err := Holds(e, sigma, w); is != (i == 0) || err != api.OK {
					t.Errorf("%s over %q: %q: %v %d", c.text, sigma, s, is, err)
				}
			}
		}
	}
}

func TestHoldsOtherSymbols(t *testing.T) { // P4.4: a w with a symbol that is not in sigma
	for _, s := range []string{"~a", ".*", "~!", "x* | ~x", "~[a % b]", "~[a / b]", "c => _"} {
		e := mustParse(t, s)
		for _, w := range [][]string{{"y"}, {"x", "+Pl"}, {"a", "b", "d"}} {
			if is, err := Holds(e, word("abcx"), w); is || err != api.OK {
				t.Errorf("%s: %q: %v %d", s, w, is, err)
			}
		}
	}
}

func TestHoldsErrors(t *testing.T) { // P4.4, R1, R2
	bad, noSigma := leaf(99), word("ba")
	largeSigma := []string{strings.Repeat("a", api.MaxSym+1)}
	noWord, longWord := []string{"a", ""}, slices.Repeat([]string{"a"}, api.MaxWord+1)
	x, pick := sym("x"), mustParse(t, "x % a")
	w10, w11, w60 := word(strings.Repeat("a", 10)), word(strings.Repeat("a", 11)), word(strings.Repeat("a", 60))
	for i, c := range []struct {
		e        api.Expr
		sigma, w []string
		want     api.Errno
	}{
		// The errors of the expression, of sigma, of w, and then the others.
		{bad, noSigma, longWord, api.ErrArg},
		{nested(api.ENot, 13), noSigma, noWord, api.ErrLarge},
		{x, noSigma, longWord, api.ErrArg},
		{x, largeSigma, noWord, api.ErrLarge},
		{x, word("ab"), noWord, api.ErrArg},
		{x, word("ab"), longWord, api.ErrLarge},
		{x, word("ab"), []string{"a", strings.Repeat("a", api.MaxSym+1)}, api.ErrLarge},
		{x, word("ab"), word("ab"), api.ErrNone},
		{x, nil, nil, api.ErrNone},
		{pick, word("ab"), w11, api.ErrNone},
		{pick, word("ax"), w11, api.ErrLarge},
		{pick, word("ax"), w10, api.OK},
		{mustParse(t, "[x* / a]? | b"), word("abx"), w11, api.ErrLarge},
		{mustParse(t, "[x* / a]? | b"), word("abx"), w10, api.OK},
		{mustParse(t, "~[a => _ $[a % a]]"), word("ax"), w11, api.ErrLarge},
		// It is too large also where a symbol is not in sigma.
		{pick, word("ax"), word("bbbbbbbbbbb"), api.ErrLarge},
		{pick, word("ax"), word("bbbbbbbbbb"), api.OK},
		{mustParse(t, "a* & ~[a.a] => _"), word("a"), w60, api.OK},
	} {
		is, err := Holds(c.e, c.sigma, c.w)
		if err != c.want || err != api.OK && is {
			t.Errorf("call %d: %v %d", i, is, err)
		}
	}
}

func TestCompile(t *testing.T) { // P4.4
	abc := word("abc")
	for text, want := range map[string]api.Net{
		"!":         {Sigma: abc, States: 1},
		"a & b":     {Sigma: abc, States: 1},
		"[] | !":    {Sigma: abc, States: 1, Ends: []api.End{{}}},
		"ab | cb":   {Sigma: abc, States: 3, Arcs: []api.Arc{{From: 0, In: "a", Out: "a", To: 1}, {From: 0, In: "c", Out: "c", To: 1}, {From: 1, In: "b", Out: "b", To: 2}}, Ends: []api.End{{State: 2}}},
		".* - .*b*": {Sigma: abc, States: 1},
		"~[~a*]":    {Sigma: abc, States: 1, Arcs: []api.Arc{{In: "a", Out: "a"}}, Ends: []api.End{{}}},
	} {
		n, err := Compile(mustParse(t, text), abc)
		if !slices.Equal(n.Sigma, want.Sigma) || n.States != want.States || !slices.Equal(n.Arcs, want.Arcs) || !slices.Equal(n.Ends, want.Ends) || err != api.OK {
			t.Errorf("Compile of %s: %v %d", text, n, err)
		}
	}
	// Symbols of several letters, which words are not cut into.
	n, err := Compile(mustParse(t, "~[<aa>*a]<+Pl>"), []string{"+Pl", "a", "aa"})
	for _, c := range []struct {
		w    []string
		want bool
	}{
		{[]string{"aa", "a", "+Pl"}, false},
		{[]string{"a", "+Pl"}, false},
		{[]string{"a", "a", "+Pl"}, true},
		{[]string{"+Pl"}, true},
		{[]string{"aa"}, false},
	} {
		if is, err2 := auto.Accepts(n, c.w); is != c.want || err != api.OK || err2 != api.OK {
			t.Errorf("Compile: %q %v %d %d", c.w, is, err, err2)
		}
	}
	if n, err := Compile(mustParse(t, "[~.]?"), nil); n.States != 1 || len(n.Arcs) != 0 || len(n.Ends) != 1 || err != api.OK {
		t.Errorf("over no symbols: %v %d", n, err)
	}
}

func TestCompileErrors(t *testing.T) { // P4.4, R1, R2
	large := mustParse(t, ".*a"+strings.Repeat(".", 20)) // 2^20 subsets
	for i, c := range []struct {
		e     api.Expr
		sigma []string
		want  api.Errno
	}{
		{leaf(99), []string{strings.Repeat("a", api.MaxSym+1)}, api.ErrArg},
		{nested(api.ENot, 13), word("ba"), api.ErrLarge},
		{sym("x"), word("ba"), api.ErrArg},
		{sym("x"), []string{strings.Repeat("a", api.MaxSym+1)}, api.ErrLarge},
		{sym("x"), word("ab"), api.ErrNone},
		{sym("x"), nil, api.ErrNone},
		{mustParse(t, "~[b => _ $[<+Pl> % a]]"), word("ab"), api.ErrNone},
		{large, word("b"), api.ErrNone},
		{large, word("ab"), api.ErrLarge},
	} {
		n, err := Compile(c.e, c.sigma)
		if err != c.want || !isZeroNet(n) {
			t.Errorf("call %d: %v %d", i, n, err)
		}
	}
}

func TestCompileOfMuch(t *testing.T) { // P4.4: what is too large ends, and what is returned is an acceptor
	sigma := word("0123456789ABCDabcdefghijklmnopqrstuvwxyz")
	line := strings.Repeat("a.", 9)
	for _, s := range []string{
		"[" + line + "] % [" + line + "]",
		"[" + line + "] / [" + line + "]",
		".*a" + strings.Repeat(".", 7) + " % ab",
		"[.*a" + strings.Repeat(".", 6) + "] / [.*b" + strings.Repeat(".", 6) + "]",
		"[[.*a" + strings.Repeat(".", 9) + "] % a]* => ~[.*a] _ [.*b...]*",
		"$[a" + strings.Repeat(".", 30) + "]",
		// More than 50000 arcs, and more than a net may have.
		"[a.c]* % [aabbaabb]*", "[ab.]* % [aabbaabb]*", "[abb]* / [...a]*",
		"[aaa]* & [aaaaa]* & [aaaaaaa]* & [aaaaaaaaaaa]*",
	} {
		n, err := Compile(mustParse(t, s), sigma)
		if err == api.OK {
			if auto.Validate(n) != api.OK {
				t.Errorf("%s: %d states", s, n.States)
			}
		} else if err != api.ErrLarge || !isZeroNet(n) {
			t.Errorf("%s: %v %d", s, n, err)
		}
	}
}

func TestMemory(t *testing.T) { // R5, R11
	sigma, w := word("abc"), word("abac")
	for _, s := range []string{"a", ".", "[]", "!", "[a | b]* - a", "a => b _ c", "[ab % c] / b", "~$a?"} {
		e := mustParse(t, s)
		before := copied(e)
		n, _ := Compile(e, sigma)
		again, _ := Compile(e, sigma)
		Holds(e, sigma, w)
		Text(e)
		simple, _ := Simple(e)
		if len(simple.L) > 0 {
			simple.L[0] = sym("x")
		}
		n.Sigma[0] = "x"
		if again.Sigma[0] != "a" || !slices.Equal(sigma, word("abc")) || !slices.Equal(w, word("abac")) || !Same(e, before) {
			t.Errorf("%s: memory is shared", s)
		}
		n.Sigma[0] = "a"
		if n.States != again.States || !slices.Equal(n.Arcs, again.Arcs) || !slices.Equal(n.Ends, again.Ends) {
			t.Errorf("%s: two nets of one call", s)
		}
	}
}
