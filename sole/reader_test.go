package sole

import (
	"slices"
	"strings"
	"testing"

	"ablaut/api"
	"ablaut/rel"
)

func TestMake(t *testing.T) { // P6.3
	r := reader("c", "/ - /bc", moved(0, "a", 1, "b"), moved(0, "b", 0, ""), moved(1, "a", 2, "ab"), moved(1, "c", 1, "c"))
	for _, c := range []struct {
		r    api.Reader
		x, y string
		is   bool
	}{
		{r, "", "c", true},
		{r, "b", "c", true},
		{r, "bb", "c", true},
		{r, "a", "", false},
		{r, "aa", "cbabbc", true},
		{r, "bacca", "cbccabbc", true},
		{r, "aaa", "", false},
		{r, "c", "", false},
		{r, "d", "", false},
		{r, "bd", "", false},
		{reader("", "/"), "", "", true},
		{reader("", "/"), "a", "", false},
		{reader("a", "-"), "", "", false},
		{reader("", "- /", moved(1, "a", 1, "")), "", "", false},
		{reader("ab", "/c"), "", "abc", true},
	} {
		y, is, e := Make(c.r, split(c.x))
		if strings.Join(y, "") != c.y || is != c.is || e != api.OK {
			t.Errorf("%v: of %q: %q %v %d", c.r, c.x, y, is, e)
		}
	}
	// What is made may be longer than words.
	long := strings.Repeat("ab", api.MaxWord/2)
	r = reader(long, "/"+long, moved(0, "a", 0, long))
	y, is, e := Make(r, split(strings.Repeat("a", api.MaxWord)))
	if strings.Join(y, "") != strings.Repeat(long, api.MaxWord+2) || !is || e != api.OK {
		t.Errorf("of a long word: %d symbols, %v %d", len(y), is, e)
	}
	// Symbols of several letters.
	r = api.Reader{Sigma: []string{"+Pl", "a", "aa"}, States: 1, Lasts: []api.Last{{}}}
	r.Moves = []api.Move{{In: "+Pl", Out: []string{"a", "+Pl"}}, {In: "aa"}}
	y, is, e = Make(r, []string{"aa", "+Pl", "+Pl"})
	if !slices.Equal(y, []string{"a", "+Pl", "a", "+Pl"}) || !is || e != api.OK {
		t.Errorf("%q %v %d", y, is, e)
	}
	if y, is, e := Make(r, []string{"a", "a"}); len(y) > 0 || is || e != api.OK {
		t.Errorf("%q %v %d", y, is, e)
	}
}

// TestRead reads functions, and compares what the readers make.
func TestRead(t *testing.T) { // P6.4
	for i, c := range []struct {
		n  api.Net
		is bool
	}{
		{net(1, nil), true},
		{net(3, []int{2}, arc(0, "a", "b", 1)), true},
		{net(1, []int{0}), true},
		{of("a:b b:c c:"), true},
		{of("ab:bc aa:bb ac:c"), true},
		{of(":abc a:ab b:abb"), true},
		{of("aaab:a aaac:b aaa:c"), true},
		{net(1, []int{0}, arc(0, "a", "b", 0), arc(0, "b", "", 0)), true},
		// The last symbol decides of the first one, however far behind it stands.
		{net(6, []int{5}, arc(0, "a", "b", 1), arc(1, "a", "b", 1), arc(1, "b", "", 5), arc(0, "a", "c", 2), arc(2, "a", "c", 2), arc(2, "c", "", 5)), false},
		{net(6, []int{5}, arc(0, "a", "b", 1), arc(1, "a", "c", 1), arc(1, "b", "", 5), arc(0, "a", "", 2), arc(2, "a", "", 2), arc(2, "c", "", 5)), false},
		// It decides no more than one symbol: what goes round writes nothing, or the same.
		{net(6, []int{5}, arc(0, "a", "b", 1), arc(1, "a", "", 1), arc(1, "b", "", 5), arc(0, "a", "c", 2), arc(2, "a", "", 2), arc(2, "c", "", 5)), true},
		{net(6, []int{5}, arc(0, "a", "b", 1), arc(1, "a", "c", 1), arc(1, "b", "", 5), arc(0, "a", "b", 2), arc(2, "a", "c", 2), arc(2, "c", "c", 5)), true},
		{net(6, []int{5}, arc(0, "a", "c", 1), arc(1, "a", "c", 1), arc(1, "b", "", 5), arc(0, "a", "", 2), arc(2, "a", "c", 2), arc(2, "c", "c", 5)), true},
		{net(6, []int{5}, arc(0, "a", "b", 1), arc(1, "a", "c", 1), arc(1, "b", "", 5), arc(0, "a", "", 2), arc(2, "a", "c", 2), arc(2, "c", "c", 5)), false},
		// The circles turn together only if both go on by one symbol.
		{net(6, []int{5}, arc(0, "a", "b", 1), arc(1, "b", "b", 1), arc(1, "b", "", 5), arc(0, "a", "c", 2), arc(2, "a", "c", 2), arc(2, "c", "", 5)), true},
		// The wheels agree where they meet, but one writes ahead of the other in between.
		{wheels(2, "b", 3, "b"), true},
		{wheels(1, "b", 2, "b"), true},
		// Circles that read nothing.
		{net(2, []int{1}, arc(0, "a", "b", 1), arc(1, "", "", 1)), true},
		{net(3, []int{2}, arc(0, "a", "b", 1), arc(1, "", "", 0), arc(1, "b", "", 2)), true},
		// What reads nothing writes ahead of what reads, and behind.
		{net(4, []int{3}, arc(0, "", "b", 1), arc(1, "", "c", 2), arc(2, "a", "", 3), arc(3, "", "b", 0)), true},
	} {
		r, is, e := Read(c.n)
		if want, _ := Sole(c.n); !want {
			if is || e != api.ErrRule || !sameReader(r, api.Reader{}) {
				t.Errorf("%d %v: %v %v %d", i, c.n, r, is, e)
			}
			continue
		}
		if is != c.is || e != api.OK || !is && !sameReader(r, api.Reader{}) {
			t.Errorf("%d %v: %v %v %d", i, c.n, r, is, e)
		}
		if is {
			mustStandFor(t, r, c.n)
		}
	}
}

// TestNet makes relations of readers.
func TestNet(t *testing.T) { // P6.4
	for i, r := range []api.Reader{
		reader("", "-"),
		reader("", "/"),
		reader("abcabc", "/"),
		reader("", "/abcabc"),
		reader("a", "/b", moved(0, "a", 0, "abcabc")),
		reader("", "/ /", moved(0, "a", 1, ""), moved(1, "b", 0, "c")),
		reader("ab", "- /c /", moved(0, "a", 0, "cc"), moved(0, "b", 2, "abc"), moved(1, "a", 1, "c"), moved(2, "a", 0, "")),
	} {
		n, e := Net(r)
		if e != api.OK || rel.Validate(n) != api.OK || !slices.Equal(n.Sigma, r.Sigma) {
			t.Fatalf("%d %v: %v %d", i, r, n, e)
		}
		mustStandFor(t, r, n)
	}
}

// TestNetOfMany makes relations of readers, and reads them again.
func TestNetOfMany(t *testing.T) { // P6.4, P6.5
	for i, r := range randomReaders(300, 3, 6) {
		n, e := Net(r)
		if e != api.OK || rel.Validate(n) != api.OK || !slices.Equal(n.Sigma, r.Sigma) {
			t.Fatalf("%d %v: %v %d", i, r, n, e)
		}
		mustStandFor(t, r, n)
		if n.States > 40 {
			continue
		}
		again, is, e := Read(n)
		if !is || e != api.OK {
			t.Fatalf("%d %v: read again: %v %d", i, r, is, e)
		}
		if same, x, e := Equal(r, again); !same || e != api.OK {
			t.Fatalf("%d %v: read again: %v, unlike for %q %d", i, r, again, x, e)
		}
	}
}

// TestEarly asks for readers with the fewest states that write early.
func TestEarly(t *testing.T) { // P6.5
	for i, c := range []struct{ r, want api.Reader }{
		{reader("", "-"), reader("", "-")},
		{reader("ab", "-"), reader("", "-")},
		{reader("ab", "- /", moved(0, "a", 0, "b"), moved(1, "b", 0, "b")), reader("", "-")},
		{reader("", "/"), reader("", "/")},
		{reader("a", "/bc"), reader("abc", "/")},
		// What all begin with is written first, what all behind a move begin with by the move.
		{
			reader("a", "- - /ab", moved(0, "b", 1, "b"), moved(1, "a", 2, ""), moved(1, "b", 2, "")),
			reader("abab", "- - /", moved(0, "b", 1, ""), moved(1, "a", 2, ""), moved(1, "b", 2, "")),
		},
		{
			reader("", "- /a /ab", moved(0, "a", 1, ""), moved(0, "b", 2, "c")),
			reader("", "- /", moved(0, "a", 1, "a"), moved(0, "b", 1, "cab")),
		},
		{
			reader("", "/ab /aac", moved(0, "a", 1, ""), moved(0, "b", 0, "ab")),
			reader("a", "/b /", moved(0, "a", 1, "ac"), moved(0, "b", 0, "ba")),
		},
		// Round a circle: as soon as is sure what is written.
		{reader("", "/a", moved(0, "a", 0, "a")), reader("a", "/", moved(0, "a", 0, "a"))},
		{reader("", "/a", moved(0, "a", 0, "b")), reader("", "/a", moved(0, "a", 0, "b"))},
		{reader("", "/aba", moved(0, "a", 0, "ab")), reader("aba", "/", moved(0, "a", 0, "ba"))},
		{
			reader("", "- /b", moved(0, "a", 1, ""), moved(1, "a", 0, "bb")),
			reader("b", "- /", moved(0, "a", 1, ""), moved(1, "a", 0, "bb")),
		},
		// States that make the same are one, and are numbered as one comes to them.
		{
			reader("", "- - - /c", moved(0, "a", 2, "a"), moved(0, "b", 1, "b"), moved(1, "a", 3, "ab"), moved(2, "a", 3, "b")),
			reader("", "- - /", moved(0, "a", 1, "abc"), moved(0, "b", 1, "babc"), moved(1, "a", 2, "")),
		},
		{
			reader("", "- / /b", moved(0, "a", 2, ""), moved(0, "b", 1, "")),
			reader("", "- /", moved(0, "a", 1, "b"), moved(0, "b", 1, "")),
		},
		{
			reader("", "- /a /b", moved(0, "a", 2, ""), moved(0, "c", 1, ""), moved(1, "a", 1, ""), moved(2, "b", 2, "")),
			reader("", "- / /", moved(0, "a", 1, "b"), moved(0, "c", 2, "a"), moved(1, "b", 1, ""), moved(2, "a", 2, "")),
		},
		// States that are not reached, and those without a way to a last, are not there.
		{
			reader("", "/ - - /c", moved(0, "a", 1, "a"), moved(1, "a", 1, ""), moved(2, "a", 3, "")),
			reader("", "/"),
		},
		{
			reader("", "- - /", moved(0, "a", 1, "a"), moved(0, "b", 2, "b")),
			reader("b", "- /", moved(0, "b", 1, "")),
		},
	} {
		r, e := Early(c.r)
		if !sameReader(r, c.want) || e != api.OK {
			t.Errorf("%d %v: %v %d", i, c.r, r, e)
		}
		again, e := Early(r)
		if !sameReader(again, r) || e != api.OK {
			t.Errorf("%d %v: again %v %d", i, c.r, again, e)
		}
		if same, x, e := Equal(c.r, r); !same || len(x) > 0 || e != api.OK {
			t.Errorf("%d %v: unlike for %q %d", i, c.r, x, e)
		}
	}
}

// TestEqual asks whether readers make the same.
func TestEqual(t *testing.T) { // P6.5
	for i, c := range []struct {
		a, b api.Reader
		x    string // the first word of which they do not; `-` if they do
	}{
		{reader("", "-"), reader("ab", "- -", moved(0, "a", 1, "")), "-"},
		{reader("", "/"), reader("", "-"), ""},
		{reader("", "/"), reader("", "/a"), ""},
		{reader("a", "/"), reader("", "/a"), "-"},
		{reader("a", "/"), reader("", "/aa"), ""},
		{reader("a", "/"), reader("b", "-"), ""},
		{reader("a", "-"), reader("b", "-"), "-"},
		{reader("", "/", moved(0, "a", 0, "a")), reader("", "/", moved(0, "a", 0, "a")), "-"},
		{reader("", "/", moved(0, "a", 0, "a")), reader("", "/", moved(0, "b", 0, "a")), "a"},
		{reader("", "/", moved(0, "b", 0, "a")), reader("", "/", moved(0, "c", 0, "a")), "b"},
		{reader("", "/", moved(0, "a", 0, "b")), reader("", "/", moved(0, "a", 0, "c")), "a"},
		// One writes later than the other.
		{reader("", "/ab", moved(0, "a", 0, "ab")), reader("a", "/b", moved(0, "a", 0, "ba")), "-"},
		{reader("", "/ab", moved(0, "a", 0, "ab")), reader("ab", "/", moved(0, "a", 0, "ba")), "a"},
		{reader("", "- - - /abc", moved(0, "a", 1, ""), moved(1, "a", 2, ""), moved(2, "b", 3, "")), reader("abc", "- - - /", moved(0, "a", 1, ""), moved(1, "a", 2, ""), moved(2, "b", 3, "")), "-"},
		{reader("", "- - - /abc", moved(0, "a", 1, ""), moved(1, "a", 2, ""), moved(2, "b", 3, "")), reader("abb", "- - - /", moved(0, "a", 1, ""), moved(1, "a", 2, ""), moved(2, "b", 3, "")), "aab"},
		// They write unlike words where no last is behind, for both or for one.
		{reader("", "- - /", moved(0, "a", 1, "a"), moved(0, "b", 2, "")), reader("", "- - /", moved(0, "a", 1, "b"), moved(0, "b", 2, "")), "-"},
		{reader("", "- - /", moved(0, "a", 1, "a"), moved(0, "b", 2, ""), moved(1, "a", 2, "")), reader("", "- - /", moved(0, "a", 1, "b"), moved(0, "b", 2, ""), moved(1, "b", 2, "")), "aa"},
		// The first word in shortlex order.
		{reader("", "/ /", moved(0, "a", 0, ""), moved(0, "b", 1, ""), moved(1, "a", 0, "b")), reader("", "/ /", moved(0, "a", 0, ""), moved(0, "b", 1, ""), moved(1, "a", 0, "c")), "ba"},
		{reader("", "/", moved(0, "c", 0, "c")), reader("", "/ /", moved(0, "a", 1, ""), moved(0, "c", 0, "b")), "a"},
		{reader("", "/", moved(0, "c", 0, "c")), reader("", "/ /", moved(0, "c", 1, "c"), moved(1, "a", 1, "")), "ca"},
	} {
		want := split(strings.Trim(c.x, "-"))
		for _, l := range [][2]api.Reader{{c.a, c.b}, {c.b, c.a}} {
			same, x, e := Equal(l[0], l[1])
			if same != (c.x == "-") || !slices.Equal(x, want) || e != api.OK {
				t.Errorf("%d %v, %v: %v %q %d", i, l[0], l[1], same, x, e)
			}
		}
	}
}
