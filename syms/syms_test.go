package syms

import (
	"regexp"
	"slices"
	"strings"
	"testing"

	"ablaut/api"
)

// ones returns the symbols of one byte, ascending, at most n.
func ones(n int) []string {
	var l []string
	for c := 33; c <= 126 && len(l) < n; c++ {
		if c != '<' && c != '>' {
			l = append(l, string(rune(c)))
		}
	}
	return l
}

// times returns a list of n texts s.
func times(s string, n int) []string {
	return slices.Repeat([]string{s}, n)
}

// notSymbols are texts of at most MaxSym bytes that are no symbols.
func notSymbols() []string {
	return []string{"", " ", "a b", "<", ">", "a<", ">a", "\n", "\x7f", "\x80", "é", "\x00", "\xff"}
}

// badLists are lists with their errors both as an alphabet and as a word.
func badLists() map[api.Errno][]string {
	return map[api.Errno][]string{
		api.ErrLarge: {"", strings.Repeat("a", api.MaxSym+1)},
		api.ErrArg:   {"", "a"},
	}
}

func TestValidate(t *testing.T) { // P1.1
	for _, c := range []struct {
		sigma []string
		want  api.Errno
	}{
		{nil, api.OK},
		{[]string{}, api.OK},
		{[]string{"a"}, api.OK},
		{[]string{"!", "~"}, api.OK},
		{[]string{"+Pl", "a", "aa", "b"}, api.OK},
		{[]string{strings.Repeat("a", api.MaxSym)}, api.OK},
		{ones(api.MaxSigma), api.OK},
		{ones(api.MaxSigma + 1), api.ErrLarge},
		{times("", api.MaxSigma+1), api.ErrLarge},
		{[]string{strings.Repeat("a", api.MaxSym+1)}, api.ErrLarge},
		{[]string{strings.Repeat("<", api.MaxSym+1)}, api.ErrLarge},
		{[]string{"b", "a", strings.Repeat("c", api.MaxSym+1)}, api.ErrLarge},
		{[]string{"b", "a"}, api.ErrArg},
		{[]string{"a", "c", "b"}, api.ErrArg},
		{[]string{"a", "a"}, api.ErrArg},
		{[]string{"aa", "a"}, api.ErrArg},
	} {
		if e := Validate(c.sigma); e != c.want {
			t.Errorf("Validate(%q): %d, not %d", c.sigma, e, c.want)
		}
	}
	for _, s := range notSymbols() {
		if e := Validate([]string{s}); e != api.ErrArg {
			t.Errorf("Validate of %q: %d", s, e)
		}
	}
}

func TestValidateWord(t *testing.T) { // P1.1
	for _, c := range []struct {
		w    []string
		want api.Errno
	}{
		{nil, api.OK},
		{[]string{"c", "a", "t", "+Pl"}, api.OK},
		{[]string{"b", "a", "a"}, api.OK},
		{times(strings.Repeat("~", api.MaxSym), api.MaxWord), api.OK},
		{times("a", api.MaxWord+1), api.ErrLarge},
		{times(" ", api.MaxWord+1), api.ErrLarge},
		{[]string{" ", strings.Repeat("a", api.MaxSym+1)}, api.ErrLarge},
		{[]string{"a", "", "b"}, api.ErrArg},
	} {
		if e := ValidateWord(c.w); e != c.want {
			t.Errorf("ValidateWord(%q): %d, not %d", c.w, e, c.want)
		}
	}
	for _, s := range notSymbols() {
		if e := ValidateWord([]string{"a", s}); e != api.ErrArg {
			t.Errorf("ValidateWord of %q: %d", s, e)
		}
	}
}

// TestBytes asks for each single byte whether it is a symbol, in all functions that tell.
func TestBytes(t *testing.T) { // P1.1, P1.2
	for c := range 256 {
		s := string([]byte{byte(c)})
		want := c >= 33 && c <= 126 && c != '<' && c != '>'
		if e := Validate([]string{s}); (e == api.OK) != want {
			t.Errorf("Validate of byte %d: %d", c, e)
		}
		if e := ValidateWord([]string{s}); (e == api.OK) != want {
			t.Errorf("ValidateWord of byte %d: %d", c, e)
		}
		if _, e := Read(s); (e == api.OK) != want {
			t.Errorf("Read of byte %d: %d", c, e)
		}
		if _, e := Read("<a" + s + ">"); (e == api.OK) != want {
			t.Errorf("Read of a longer symbol with byte %d: %d", c, e)
		}
	}
}

func TestErrorsOfWords(t *testing.T) { // P1.1, R1, R2, R3
	for want, w := range badLists() {
		if s, e := Text(w); s != "" || e != want {
			t.Errorf("Text(%q): %q %d, not %d", w, s, e, want)
		}
		if s, e := Raw(w); s != "" || e != want {
			t.Errorf("Raw(%q): %q %d, not %d", w, s, e, want)
		}
	}
}

func TestErrorsOfAlphabets(t *testing.T) { // P1.1, R1, R2, R3
	long := strings.Repeat("?", api.MaxText+1)
	for want, bad := range badLists() {
		for _, s := range []string{"", "a", "?", long} { // sigma's errors are ahead of those of the text
			if w, at, e := Split(s, bad); len(w) != 0 || at != 0 || e != want {
				t.Errorf("Split(%q, %q): %q %d %d, not %d", s, bad, w, at, e, want)
			}
			if n, e := Cuts(s, bad); n != 0 || e != want {
				t.Errorf("Cuts(%q, %q): %d %d, not %d", s, bad, n, e, want)
			}
		}
	}
	good, arg, large := []string{"a"}, []string{"b", "a"}, ones(api.MaxSigma+1)
	for _, f := range []func(a, b []string) ([]string, api.Errno){Either, Both, Less} {
		for _, c := range []struct {
			a, b []string
			want api.Errno
		}{
			{good, arg, api.ErrArg}, {good, large, api.ErrLarge},
			{arg, good, api.ErrArg}, {large, good, api.ErrLarge},
			{arg, large, api.ErrArg}, {large, arg, api.ErrLarge},
		} {
			if l, e := f(c.a, c.b); len(l) != 0 || e != c.want {
				t.Errorf("%q and %q: %q %d, not %d", c.a, c.b, l, e, c.want)
			}
		}
	}
}

func TestText(t *testing.T) { // P1.2
	for _, c := range []struct {
		w    []string
		want string
	}{
		{nil, ""},
		{[]string{"c", "a", "t", "+Pl"}, "cat<+Pl>"},
		{[]string{"ab"}, "<ab>"},
		{[]string{"a", "b"}, "ab"},
		{[]string{"\\", "[", "]", "~"}, "\\[]~"},
		{[]string{strings.Repeat("x", api.MaxSym), "y"}, "<" + strings.Repeat("x", api.MaxSym) + ">y"},
	} {
		if s, e := Text(c.w); s != c.want || e != api.OK {
			t.Errorf("Text(%q): %q %d", c.w, s, e)
		}
		if w, e := Read(c.want); !slices.Equal(w, c.w) || e != api.OK {
			t.Errorf("Read(%q): %q %d", c.want, w, e)
		}
	}
}

func TestTextThatIsLong(t *testing.T) { // P1.2
	w := times(strings.Repeat("x", 14), api.MaxText/16) // 16 bytes each
	s, e := Text(w)
	if len(s) != api.MaxText || e != api.OK {
		t.Errorf("a text of MaxText bytes: %d bytes, %d", len(s), e)
	}
	if x, e := Read(s); !slices.Equal(x, w) || e != api.OK {
		t.Errorf("Read of a text of MaxText bytes: %d", e)
	}
	if s, e := Text(append(w, "y")); s != "" || e != api.ErrLarge {
		t.Errorf("a text of one byte more: %q %d", s, e)
	}
}

func TestReadErrors(t *testing.T) { // P1.2
	for _, c := range []struct {
		s    string
		want api.Errno
	}{
		{"<a>", api.ErrSyntax},
		{"<>", api.ErrSyntax},
		{"<", api.ErrSyntax},
		{">", api.ErrSyntax},
		{"a>", api.ErrSyntax},
		{"<ab", api.ErrSyntax},
		{"<ab>>", api.ErrSyntax},
		{"<<ab>>", api.ErrSyntax},
		{"<a<b>", api.ErrSyntax},
		{"<ab><", api.ErrSyntax},
		{"a b", api.ErrSyntax},
		{"<a b>", api.ErrSyntax},
		{"a\n", api.ErrSyntax},
		{"é", api.ErrSyntax},
		{"<" + strings.Repeat("x", api.MaxSym) + ">", api.OK},
		{"<" + strings.Repeat("x", api.MaxSym+1) + ">", api.ErrSyntax},
		{strings.Repeat("a", api.MaxWord), api.OK},
		{strings.Repeat("a", api.MaxWord+1), api.ErrLarge},
		{strings.Repeat("a", api.MaxWord+1) + ">", api.ErrSyntax},
		{strings.Repeat("a", api.MaxText), api.ErrLarge},
		{strings.Repeat(">", api.MaxText), api.ErrSyntax},
		{strings.Repeat(">", api.MaxText+1), api.ErrLarge},
	} {
		w, e := Read(c.s)
		if e != c.want {
			t.Errorf("Read(%q): %d, not %d", c.s, e, c.want)
		}
		if e != api.OK && len(w) != 0 {
			t.Errorf("Read(%q): %q with an error", c.s, w)
		}
	}
}

// lists calls do with each list of at most most of the things.
func lists(things []string, most int, do func(l []string)) {
	var grow func(l []string)
	grow = func(l []string) {
		do(l)
		if len(l) < most {
			for _, x := range things {
				grow(append(slices.Clone(l), x))
			}
		}
	}
	grow(nil)
}

func TestReadAndTextAreInverse(t *testing.T) { // P1.2
	form := regexp.MustCompile(`^([!-;=?-~]|<[!-;=?-~]{2,16}>)*$`)
	read := 0
	lists([]string{"a", "<", ">", " ", "~", "b"}, 6, func(l []string) {
		s := strings.Join(l, "")
		w, e := Read(s)
		if (e == api.OK) != form.MatchString(s) {
			t.Fatalf("Read(%q): %q %d", s, w, e)
		}
		if e != api.OK {
			return
		}
		read++
		if back, e := Text(w); back != s || e != api.OK {
			t.Fatalf("Text of Read(%q): %q %d", s, back, e)
		}
	})
	if read == 0 {
		t.Error("no text was read")
	}
	lists([]string{"a", "b", "ab", "+Pl", "a+Pl"}, 5, func(w []string) {
		s, _ := Text(w)
		if back, e := Read(s); !slices.Equal(back, w) || e != api.OK {
			t.Fatalf("Read of Text(%q): %q %d", w, back, e)
		}
	})
}

func TestRaw(t *testing.T) { // P1.3
	for _, c := range []struct {
		w    []string
		want string
	}{
		{nil, ""},
		{[]string{"c", "a", "t", "+Pl"}, "cat+Pl"},
		{[]string{"aa", "b"}, "aab"},
		// The chapter names no bound for it: it may be longer than a text that Split takes.
		{times(strings.Repeat("x", api.MaxSym), api.MaxWord), strings.Repeat("x", api.MaxSym*api.MaxWord)},
	} {
		if s, e := Raw(c.w); s != c.want || e != api.OK {
			t.Errorf("Raw(%q): %q %d", c.w, s, e)
		}
	}
}

func TestIs(t *testing.T) { // P1.3
	for _, c := range []struct {
		w, sigma []string
		want     bool
	}{
		{nil, nil, true},
		{nil, []string{"a"}, true},
		{[]string{"a"}, nil, false},
		{[]string{"a", "a", "b"}, []string{"a", "b"}, true},
		{[]string{"a", "c"}, []string{"a", "b"}, false},
		{[]string{"c", "a"}, []string{"a", "b"}, false},
		{[]string{"aa"}, []string{"a"}, false},
		{[]string{"a"}, []string{"aa"}, false},
		{[]string{"", "<", "é"}, []string{"é", "<", "", ""}, true},
		{[]string{""}, []string{"a"}, false},
		{[]string{strings.Repeat("a", 99)}, []string{"b", strings.Repeat("a", 99), "a"}, true},
		{times("a", 1000), append(times("b", 1000), "a"), true},
	} {
		if is := Is(c.w, c.sigma); is != c.want {
			t.Errorf("Is(%q, %q): %v", c.w, c.sigma, is)
		}
	}
}

func TestSplit(t *testing.T) { // P1.4
	sigma := []string{"a", "aa", "aab", "b", "ca", "d"}
	for _, c := range []struct {
		s    string
		want []string
		at   int
		e    api.Errno
	}{
		{"", nil, 0, api.OK},
		{"a", []string{"a"}, 0, api.OK},
		{"aaa", []string{"aa", "a"}, 0, api.OK},
		{"aab", []string{"aab"}, 0, api.OK},
		{"aaab", []string{"aa", "a", "b"}, 0, api.OK}, // the longest at each place, not the fewest symbols
		{"dca", []string{"d", "ca"}, 0, api.OK},
		{"x", nil, 0, api.ErrNone},
		{"aax", nil, 2, api.ErrNone},
		{"aac", nil, 2, api.ErrNone},
		{"dd\xff", nil, 2, api.ErrNone},
		{"b b", nil, 1, api.ErrNone},
		{strings.Repeat("b", api.MaxWord), times("b", api.MaxWord), 0, api.OK},
		{strings.Repeat("b", api.MaxWord+1), nil, 0, api.ErrLarge},
		{strings.Repeat("b", api.MaxText), nil, 0, api.ErrLarge},
		{strings.Repeat("b", api.MaxText-1) + "x", nil, api.MaxText - 1, api.ErrNone},
		{strings.Repeat("x", api.MaxText+1), nil, 0, api.ErrLarge},
	} {
		if w, at, e := Split(c.s, sigma); !slices.Equal(w, c.want) || at != c.at || e != c.e {
			t.Errorf("Split(%q): %q %d %d", c.s, w, at, e)
		}
	}
	if w, at, e := Split("", nil); len(w) != 0 || at != 0 || e != api.OK {
		t.Errorf("Split of nothing by nothing: %q %d %d", w, at, e)
	}
	if w, at, e := Split("a", nil); len(w) != 0 || at != 0 || e != api.ErrNone {
		t.Errorf("Split by nothing: %q %d %d", w, at, e)
	}
	// What the longest symbol leaves over may have no symbol, where a shorter one would have gone on.
	if w, at, e := Split("abc", []string{"a", "ab", "bc"}); len(w) != 0 || at != 2 || e != api.ErrNone {
		t.Errorf("Split goes back: %q %d %d", w, at, e)
	}
	long := strings.Repeat("ab", api.MaxSym/2)
	want := slices.Concat(times(long, 24), times("ab", 7), []string{"aa"})
	if w, at, e := Split(strings.Repeat("ab", 199)+"aa", []string{"aa", "ab", long}); !slices.Equal(w, want) || at != 0 || e != api.OK {
		t.Errorf("Split of a text of MaxText bytes: %q %d %d", w, at, e)
	}
}

func TestCuts(t *testing.T) { // P1.4
	for _, c := range []struct {
		s     string
		sigma []string
		want  int
		e     api.Errno
	}{
		{"", nil, 1, api.OK},
		{"", []string{"a"}, 1, api.OK},
		{"a", nil, 0, api.OK},
		{"aab", []string{"a", "aa", "b"}, 2, api.OK},
		{"aac", []string{"a", "aa", "b"}, 0, api.OK},
		{"a\xff", []string{"a"}, 0, api.OK},
		{"abc", []string{"a", "ab", "bc"}, 1, api.OK},
		{strings.Repeat("a", 42), []string{"a", "aa"}, 433494437, api.OK},
		{strings.Repeat("a", 43), []string{"a", "aa"}, 701408733, api.OK},
		{strings.Repeat("a", 44), []string{"a", "aa"}, api.MaxCount, api.OK}, // 1134903170
		{strings.Repeat("a", api.MaxText), []string{"a", "aa"}, api.MaxCount, api.OK},
		{"b" + strings.Repeat("a", api.MaxText-1), []string{"a", "aa"}, 0, api.OK},
		{strings.Repeat("a", api.MaxText-1) + "b", []string{"a", "aa"}, 0, api.OK},
		{strings.Repeat("a", api.MaxText), []string{"a"}, 1, api.OK}, // more symbols than a word has
		{strings.Repeat("a", api.MaxText+1), []string{"a"}, 0, api.ErrLarge},
		{strings.Repeat("a", api.MaxText+1), nil, 0, api.ErrLarge},
		{strings.Repeat("a", 10), []string{"a", "aaaaaaaaa"}, 3, api.OK},
	} {
		if n, e := Cuts(c.s, c.sigma); n != c.want || e != c.e {
			t.Errorf("Cuts(%q, %q): %d %d, not %d", c.s, c.sigma, n, e, c.want)
		}
	}
}

// TestCutsNearMaxCount has texts of just MaxCount cuts, of more and of fewer.
func TestCutsNearMaxCount(t *testing.T) { // P1.4
	// `aaaac` has 5 cuts (by `a`, `aa`), `bbc` 2 (by `b`, `bb`): 5^9 * 2^9 are MaxCount.
	sigma := []string{"a", "aa", "b", "bb", "c"}
	s := strings.Repeat("aaaac", 9) + strings.Repeat("bbc", 9)
	if n, e := Cuts(s, sigma); n != 1000000000 || e != api.OK {
		t.Errorf("just MaxCount: %d %d", n, e)
	}
	if n, e := Cuts(s+"bbc", sigma); n != api.MaxCount || e != api.OK {
		t.Errorf("twice MaxCount: %d %d", n, e)
	}
	less := strings.Repeat("aaaac", 9) + strings.Repeat("bbc", 8)
	if n, e := Cuts(less, sigma); n != 500000000 || e != api.OK {
		t.Errorf("half of MaxCount: %d %d", n, e)
	}
}

// TestSplitAndCutsByLists compares both with all lists of symbols.
func TestSplitAndCutsByLists(t *testing.T) { // P1.4
	for _, sigma := range [][]string{{"a", "aa", "b"}, {"ab", "b", "ba"}, {"a", "aab", "ab", "b"}, {"a"}} {
		cuts := map[string][][]string{}
		lists(sigma, 6, func(l []string) {
			s := strings.Join(l, "")
			cuts[s] = append(cuts[s], l)
		})
		lists([]string{"a", "b"}, 6, func(l []string) {
			s := strings.Join(l, "")
			if n, e := Cuts(s, sigma); n != len(cuts[s]) || e != api.OK {
				t.Errorf("Cuts(%q, %q): %d %d, not %d", s, sigma, n, e, len(cuts[s]))
			}
			w, at, e := Split(s, sigma)
			if e == api.OK && (at != 0 || strings.Join(w, "") != s || !Is(w, sigma)) {
				t.Errorf("Split(%q, %q): %q %d", s, sigma, w, at)
			}
			if e != api.OK && (e != api.ErrNone || longest(s[at:], sigma) != "") {
				t.Errorf("Split(%q, %q): %d %d", s, sigma, at, e)
			}
		})
	}
}

func TestCompare(t *testing.T) { // P1.5
	// In order; texts that are no symbols, too.
	l := [][]string{
		nil, {""}, {" "}, {"a"}, {"aa"}, {"b"}, {"\xff"},
		{"", "z"}, {"a", "a"}, {"a", "b"}, {"aa", "a"}, {"b", "a"},
		{"", "", ""}, {"a", "a", "a"}, times("", api.MaxWord+1), times("a", api.MaxWord+1),
	}
	for i, a := range l {
		for k, b := range l {
			want := 0
			if i < k {
				want = -1
			} else if i > k {
				want = 1
			}
			if c := Compare(a, b); c != want {
				t.Errorf("Compare(%q, %q): %d", a, b, c)
			}
		}
	}
	if Compare(nil, []string{}) != 0 { // R4
		t.Error("Compare of nil and an empty list")
	}
}

func TestSorted(t *testing.T) { // P1.5
	for _, c := range []struct{ l, want [][]string }{
		{nil, nil},
		{[][]string{nil}, [][]string{nil}},
		{[][]string{nil, {}}, [][]string{nil}}, // R4
		{[][]string{{"b"}, {"a", "a"}, {"a"}, {"b"}, nil}, [][]string{nil, {"a"}, {"b"}, {"a", "a"}}},
		{[][]string{{"ab"}, {"a", "b"}}, [][]string{{"ab"}, {"a", "b"}}},
		{[][]string{{"b", "a"}, {"a", "b"}, {"c"}}, [][]string{{"c"}, {"a", "b"}, {"b", "a"}}},
	} {
		if l, e := Sorted(c.l); !slices.EqualFunc(l, c.want, slices.Equal[[]string]) || e != api.OK {
			t.Errorf("Sorted(%q): %q %d", c.l, l, e)
		}
	}
}

func TestSortedErrors(t *testing.T) { // P1.5, R1, R3
	rows := func(n int, w ...string) [][]string { return slices.Repeat([][]string{w}, n) }
	large := []string{strings.Repeat("a", api.MaxSym+1)}
	for _, c := range []struct {
		l    [][]string
		want api.Errno
	}{
		{rows(api.MaxRows, "a"), api.OK},
		{rows(api.MaxRows+1, "a"), api.ErrLarge}, // words are counted before equal ones are one
		{rows(api.MaxRows+1, ""), api.ErrLarge},
		{[][]string{{"a"}, {""}}, api.ErrArg},
		{[][]string{{"a"}, large}, api.ErrLarge},
		{[][]string{{"a"}, times("a", api.MaxWord+1)}, api.ErrLarge},
		{[][]string{{""}, large}, api.ErrArg}, // one by one
		{[][]string{large, {""}}, api.ErrLarge},
		{[][]string{{"", large[0]}}, api.ErrLarge},
	} {
		l, e := Sorted(c.l)
		if e != c.want {
			t.Errorf("Sorted(%q): %d, not %d", c.l, e, c.want)
		}
		if e != api.OK && len(l) != 0 {
			t.Errorf("Sorted(%q): %q with an error", c.l, l)
		}
	}
}

func TestAlphabets(t *testing.T) { // P1.6
	for _, c := range []struct{ a, b, either, both, less []string }{
		{nil, nil, nil, nil, nil},
		{[]string{"a"}, nil, []string{"a"}, nil, []string{"a"}},
		{nil, []string{"a"}, []string{"a"}, nil, nil},
		{[]string{"a", "c"}, []string{"b", "c"}, []string{"a", "b", "c"}, []string{"c"}, []string{"a"}},
		{[]string{"b", "c"}, []string{"a", "c"}, []string{"a", "b", "c"}, []string{"c"}, []string{"b"}},
		{[]string{"a", "b"}, []string{"a", "b"}, []string{"a", "b"}, []string{"a", "b"}, nil},
		{[]string{"a", "ab"}, []string{"aa", "b"}, []string{"a", "aa", "ab", "b"}, nil, []string{"a", "ab"}},
	} {
		if l, e := Either(c.a, c.b); !slices.Equal(l, c.either) || e != api.OK {
			t.Errorf("Either(%q, %q): %q %d", c.a, c.b, l, e)
		}
		if l, e := Both(c.a, c.b); !slices.Equal(l, c.both) || e != api.OK {
			t.Errorf("Both(%q, %q): %q %d", c.a, c.b, l, e)
		}
		if l, e := Less(c.a, c.b); !slices.Equal(l, c.less) || e != api.OK {
			t.Errorf("Less(%q, %q): %q %d", c.a, c.b, l, e)
		}
	}
}

func TestAlphabetsThatAreLarge(t *testing.T) { // P1.6
	l := ones(api.MaxSigma + 1)
	a, b := l[:api.MaxSigma], l[1:]
	if x, e := Either(a, a); len(x) != api.MaxSigma || e != api.OK {
		t.Errorf("Either of MaxSigma symbols: %d, %d", len(x), e)
	}
	if x, e := Either(l[:20], l[20:api.MaxSigma]); !slices.Equal(x, a) || e != api.OK {
		t.Errorf("Either of two halves: %q, %d", x, e)
	}
	if x, e := Either(a, b); len(x) != 0 || e != api.ErrLarge {
		t.Errorf("Either of more: %d, %d", len(x), e)
	}
	if x, e := Both(a, b); !slices.Equal(x, l[1:api.MaxSigma]) || e != api.OK {
		t.Errorf("Both of these: %q, %d", x, e)
	}
	if x, e := Less(a, b); !slices.Equal(x, l[:1]) || e != api.OK {
		t.Errorf("Less of these: %q, %d", x, e)
	}
}

// TestMemory changes results, and looks whether arguments or other results change too.
func TestMemory(t *testing.T) { // R5
	a, b := []string{"a", "c"}, []string{"a", "b"}
	for _, f := range []func(a, b []string) ([]string, api.Errno){Either, Both, Less} {
		l, _ := f(a, b)
		for i := range l {
			l[i] = "?"
		}
		_ = append(l, "!")
		if !slices.Equal(a, []string{"a", "c"}) || !slices.Equal(b, []string{"a", "b"}) {
			t.Fatalf("arguments have become %q %q", a, b)
		}
	}
	words := [][]string{{"b"}, {"a", "a"}, {"b"}}
	l, _ := Sorted(words)
	for i := range l {
		l[i][0] = "?"
		l[i] = nil
	}
	if !slices.EqualFunc(words, [][]string{{"b"}, {"a", "a"}, {"b"}}, slices.Equal[[]string]) {
		t.Errorf("the words have become %q", words)
	}
	sigma := []string{"a", "b"}
	w, _, _ := Split("ab", sigma)
	w[0] = "?"
	if !slices.Equal(sigma, []string{"a", "b"}) {
		t.Errorf("the alphabet has become %q", sigma)
	}
	if again, _, _ := Split("ab", sigma); !slices.Equal(again, sigma) { // R11
		t.Errorf("the same call: %q", again)
	}
}

// TestAnyArguments calls all functions with all sorts of arguments: they end and do not panic, and what they return with an error is zero.
func TestAnyArguments(t *testing.T) { // P1, R3, R6
	texts := []string{"", "a", "ab", "<", ">", "<>", "<a>", "<ab>", "<ab", " ", "\x00\xff", "é", strings.Repeat("a", api.MaxText), strings.Repeat("<", 100000), strings.Repeat("<ab>", 100), strings.Repeat("a", 1000000)}
	some := [][]string{nil, {}, texts, {""}, {"a"}, {"a", "b"}, {"b", "a"}, {"a", "a"}, {"a", "ab"}, {"<"}, {texts[13]}, ones(api.MaxSigma), ones(92), times("a", 60), times("a", 100000)}
	for _, a := range some {
		Validate(a)
		ValidateWord(a)
		if s, e := Text(a); e != api.OK && s != "" {
			t.Errorf("Text(%.80q): %q %d", a, s, e)
		}
		if s, e := Raw(a); e != api.OK && s != "" {
			t.Errorf("Raw(%.80q): %q %d", a, s, e)
		}
		for _, b := range some {
			Is(a, b)
			if Compare(a, b) != -Compare(b, a) {
				t.Errorf("Compare(%.80q, %.80q)", a, b)
			}
			for _, f := range []func(a, b []string) ([]string, api.Errno){Either, Both, Less} {
				l, e := f(a, b)
				if e != api.OK && len(l) != 0 || Validate(l) != api.OK {
					t.Errorf("alphabets %.80q, %.80q: %q %d", a, b, l, e)
				}
			}
		}
		for _, s := range texts {
			if w, at, e := Split(s, a); e != api.OK && len(w) != 0 || e != api.ErrNone && at != 0 {
				t.Errorf("Split(%.80q, %.80q): %q %d %d", s, a, w, at, e)
			}
			if n, e := Cuts(s, a); e != api.OK && n != 0 || n < 0 || n > api.MaxCount {
				t.Errorf("Cuts(%.80q, %.80q): %d %d", s, a, n, e)
			}
		}
	}
	for _, s := range texts {
		if w, e := Read(s); e != api.OK && len(w) != 0 || ValidateWord(w) != api.OK {
			t.Errorf("Read(%.80q): %q %d", s, w, e)
		}
	}
	Sorted(some)
	Sorted(slices.Repeat(some, 100))
}
