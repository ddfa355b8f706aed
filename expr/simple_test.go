package expr

import (
	"math/rand"
	"slices"
	"testing"

	"ablaut/api"
)

func TestSimple(t *testing.T) { // P4.5
	for s, want := range map[string]string{
		"a": "a", "ab": "ab", "a | b": "a | b", "a => b _ c": "a => b _ c", "a / b": "a / b", "a % b": "a % b", "~a": "~a", "$a": "$a",
		"[ab]c[[]d]": "abcd", "a[][]": "a", "[][]": "[]", "a!b": "!",
		"[a | b] | [c | a]": "a | b | c", "a | !": "a", "! | !": "!", "a | .* | b": ".*", "a | []": "a?", "a* | []": "a*", "a* | [] | b": "a* | b", "[] | a | b": "[] | a | b", "[] | []": "[]",
		"a & a": "a", "a & [b & .*]": "a & b", ".* & ~!": ".*", "a & !": "!",
		"a - a": "!", "a - !": "a", "! - a": "!", "a - .*": "!", ".* - a": "~a",
		"a**": "a*", "a+*": "a*", "a?*": "a*", "!*": "[]", "[]*": "[]",
		"a++": "a+", "a*+": "a*", "a?+": "a*", "!+": "!", "[]+": "[]",
		"a??": "a?", "a*?": "a*", "a+?": "a*", "!?": "[]", "[]?": "[]",
		"~~a": "a", "~!": ".*", "~[.*]": "!", "~~~a": "~a",
		"$!": "!", "$[]": ".*", "$a*": ".*", "$$a": "$a", "$a+": "$a", "$[a?b*]": ".*",
		"a / !": "a", "a / []": "a", "! / a": "!", "[] / a": "a*", ".* / a": ".*", "a / b*": "a / b", "a / b+": "a / b", "a / b?": "a / b",
		"! => b _ c": ".*", "a => _": ".*", "a => b* _ c?": ".*", "a => b _ c?": "a => b _ c?",
		"a % []": "a", "[] % a": "a", "a % !": "!", "! % a": "!",
		// What is made simpler shows more.
		"~[[a!]*[]] | [[b]&[b]]": "~[] | b",
		"[[~!]+ - [! | $[]]]*":   "[]",
	} {
		x, err := Simple(mustParse(t, s))
		if err != api.OK || mustText(t, x) != want {
			t.Errorf("Simple of %s: %s %d, not %s", s, mustText(t, x), err, want)
		}
	}
}

// checkSimple fails if Simple returns more nodes, no expression, one that is made still simpler, or other words over one of the alphabets.
func checkSimple(t *testing.T, e api.Expr, sigmas []string, most int) {
	t.Helper()
	before := copied(e)
	x, err := Simple(e)
	if err != api.OK || Validate(x) != api.OK || Size(x) > Size(e) {
		t.Fatalf("Simple of %s: %v %d", shown(e), x, err)
	}
	if y, err := Simple(x); !Same(x, y) || err != api.OK {
		t.Errorf("Simple of %s: %s, and then %s %d", shown(e), shown(x), shown(y), err)
	}
	if !Same(e, before) {
		t.Errorf("Simple has changed %s: %s", shown(before), shown(e))
	}
	for _, s := range sigmas {
		sigma := word(s)
		for _, u := range universe(sigma, most) {
			w := word(u)
			was, err := Holds(e, sigma, w)
			if err != api.OK {
				break // an alphabet without one of its symbols
			}
			if is, err := Holds(x, sigma, w); is != was || err != api.OK {
				t.Errorf("Simple of %s: %s: %q over %q: %v %d", shown(e), shown(x), u, sigma, is, err)
			}
		}
	}
}

func TestSimpleWords(t *testing.T) { // P4.5
	for _, l := range expressions(4, leaves("a")) {
		for _, e := range l {
			checkSimple(t, e, []string{"", "a", "ab"}, 3)
		}
	}
	for _, l := range expressions(3, leaves("a", "b")) {
		for _, e := range l {
			checkSimple(t, e, []string{"ab", "abc"}, 3)
		}
	}
	r := rand.New(rand.NewSource(7))
	for range 6000 {
		if e := some(r, 5+r.Intn(16), leaves("a", "b")); Validate(e) == api.OK {
			checkSimple(t, e, []string{"ab", "abc"}, 3)
		}
	}
}

func TestSimpleMemory(t *testing.T) { // R5
	for _, s := range []string{"a[bc]d", "a | [b | c]", "a => b _ c", "[a / b] % [a - b]", "[] / [ab]", ".* - [ab]", "~[~[ab]]", "a* & ~! & b*"} {
		e := mustParse(t, s)
		before := copied(e)
		x, _ := Simple(e)
		spoil(x)
		if !Same(e, before) {
			t.Errorf("%s: the result shares memory", s)
		}
	}
}

// spoil changes all nodes of an expression in their places.
func spoil(e api.Expr) {
	for i := range e.L {
		spoil(e.L[i])
		e.L[i] = api.Expr{Op: 99}
	}
	slices.Reverse(e.L)
}
