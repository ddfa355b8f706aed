package expr

import (
	"maps"
	"math/rand"
	"slices"
	"strings"
	"testing"

	"ablaut/api"
)

// shown returns a value with the names of its operations, and all its brackets.
func shown(e api.Expr) string {
	names := []string{"", "any", "none", "void", "chain", "or", "and", "but", "star", "plus", "opt", "not", "has", "ignore", "only", "shuffle"}
	s := names[e.Op] + e.S
	if len(e.L) > 0 {
		var l []string
		for _, x := range e.L {
			l = append(l, shown(x))
		}
		s += "(" + strings.Join(l, " ") + ")"
	}
	return s
}

func TestParse(t *testing.T) { // P4.2
	for text, want := range map[string]string{
		// Symbols and other things.
		"a": "a", "Z": "Z", "0": "0", "9": "9", "<+Pl>": "+Pl", "<ab>": "ab", "<1234567890123456>": "1234567890123456",
		`\+`: "+", `\\`: `\`, `\[`: "[", `\_`: "_", `\=`: "=", `\!`: "!", `\"`: `"`, `\~\~`: "chain(~ ~)",
		".": "any", "[]": "none", "!": "void", "[a]": "a", "[[[a]]]": "a", "[[]]": "none", "[[[]]]": "none",
		"<=>>": "", `<\\>`: `\\`, "<[]>": "[]", "<=_>": "=_",
		// Blanks.
		" a ": "a", "   [   a   ]   ": "a", "a   b": "chain(a b)", "a *": "star(a)", "~ a": "not(a)", "a * *": "star(star(a))",
		"[ [] ]": "none", "a|b": "or(a b)", "a=>b_c": "only(a b c)", "a=>_": "only(a none none)", `\a`: "", "a\tb": "",
		// Marks, and what stands ahead.
		"a*": "star(a)", "a+": "plus(a)", "a?": "opt(a)", "a*+?": "opt(plus(star(a)))", "[a*]*": "star(star(a))",
		"~a": "not(a)", "$a": "has(a)", "~$~a": "not(has(not(a)))", "~a*": "not(star(a))", "$a?+": "has(plus(opt(a)))", "[~a]*": "star(not(a))",
		"~ab": "chain(not(a) b)", "a~b": "chain(a not(b))", "~[ab]": "not(chain(a b))", "~a$b*c": "chain(not(a) has(star(b)) c)", "[]*": "star(none)",
		// From the loosest to the tightest.
		"ab": "chain(a b)", "abc": "chain(a b c)", "[ab]c": "chain(chain(a b) c)", "a[bc]": "chain(a chain(b c))", "a[]": "chain(a none)", "[]!.": "chain(none void any)",
		"a / b": "ignore(a b)", "a / b / c": "ignore(ignore(a b) c)", "a / [b / c]": "ignore(a ignore(b c))", "ab / cd": "ignore(chain(a b) chain(c d))",
		"a % b": "shuffle(a b)", "a % b % c": "shuffle(shuffle(a b) c)", "a % b / c % d": "shuffle(shuffle(a ignore(b c)) d)",
		"a & b": "and(a b)", "a & b & c": "and(a b c)", "[a & b] & c": "and(and(a b) c)", "a & [b & c]": "and(a and(b c))", "a % b & c": "and(shuffle(a b) c)",
		"a | b": "or(a b)", "a | b | c": "or(a b c)", "a | [b | c]": "or(a or(b c))", "a & b | c & d": "or(and(a b) and(c d))",
		"a - b": "but(a b)", "a - b - c": "but(but(a b) c)", "a - [b - c]": "but(a but(b c))", "a | b - c | d": "but(or(a b) or(c d))",
		"a-b|c&d%e/fg*": "but(a or(b and(c shuffle(d ignore(e chain(f star(g)))))))",
		"ab/c%d&e|f-g":  "but(or(and(shuffle(ignore(chain(a b) c) d) e) f) g)",
		// What stands only there.
		"a => b _ c": "only(a b c)", "a => _ c": "only(a none c)", "a => b _": "only(a b none)", "a => _": "only(a none none)", "a => [] _ []": "only(a none none)",
		"a - b => c - d _ e - f": "only(but(a b) but(c d) but(e f))", "[a => b _ c] => d _ e": "only(only(a b c) d e)",
		"a => [b => _] _ [c => _ d]": "only(a only(b none none) only(c none d))", "[a => b _]*": "star(only(a b none))", "a [b => _]": "chain(a only(b none none))",
		"[a => _ ] b": "chain(only(a none none) b)", "[a=>_]|b": "or(only(a none none) b)",
	} {
		e, at, err := Parse(text)
		if want == "" {
			if err != api.ErrSyntax || !isZero(e) {
				t.Errorf("Parse of %q: %s %d %d", text, shown(e), at, err)
			}
			continue
		}
		if err != api.OK || at != 0 || shown(e) != want {
			t.Errorf("Parse of %q: %s %d %d, not %s", text, shown(e), at, err, want)
		}
	}
}

func TestParseFaults(t *testing.T) { // P4.2: ^ stands at the fault
	for _, marked := range []string{
		// It ends too early.
		"^", "   ^", "a |^", "a - b | c & d % e / ^", "~^", "$ ^", "~$~^", "[^", "[a^", "[[a]^", "a[^", "[a | ^", "[ a ^",
		"a =>^", "a => b^", "a => b c ^", "[a => _^", "[a => b _ c^", "[~[a]*^",
		// A token that does not fit.
		"^]", "a^]", "a ^] b", "[ ^]", "[^*]", "[a | ^]", "[a]^]", "[]^]", "[~^]", "[a => ^]", "[a => b^]", "[a => b c ^]",
		"^*", "^?a", "a | ^*", "~^*a", "$^+", "^| a", "a | ^| b", "a | b & ^& c", "^- a", "a - ^- b", "^% a", "a / ^/ b", "^/", "^&", "a ~^| b", "a & ^| b",
		"^_", "a ^_", "a ^_ b", "[a ^_ b]", "^=> a _", "a | ^=> b _", "a => ^=> b", "a => b ^=> c _", "a => b _ ^=> c", "a => b _ c ^=> d _", "a => b _ c ^_ d",
		"a => b _ ^_ c", "a => _ ^_", "a => _ ^| b", "a => ^| b _ c", "a => b | ^_ c", "a => b _ c | ^_", "[a => b _ c ^=> d _]", "[a => b _ c] => ^=> b", "a => b _ c^]",
		// A byte that begins no token.
		"^#", "a ^#", "a^,b", "a ^= b", "a ^=", "a ^= > b _", "a ^> b", "^<a>", "^<", "^<>", "^<ab", "a ^<a b>", "a^<a<b>", "^<12345678901234567>", "a^>",
		`^\`, `a ^\`, `^\a`, `^\9`, `^\ +`, `^\<`, `a^\>`, "^\\\x7f", "a^\t", "^\n", "a ^\x00", "^ä", "^\\ä", "a^\xff", "a ^(b)", "^'a'", "a^:b", "a ^{b}", "a^;", "^\"a", "a ^@b", "a^^b", "^`",
		// The first one of two.
		"a ^] #", "a | ^| <", "^* ]", "a ^# ]", "a => ^| #", "[a ^_ <", "^| #", "a ^]#", "~^|#", "[ ^]#", "a => b ^=>#", "a => b _ c ^_#",
	} {
		at := strings.IndexByte(marked, '^')
		text := marked[:at] + marked[at+1:]
		if e, got, err := Parse(text); !isZero(e) || got != at || err != api.ErrSyntax {
			t.Errorf("Parse of %q: %v %d %d, not the place %d", text, e, got, err, at)
		}
	}
	// The byte ^ itself begins no token either.
	for text, at := range map[string]int{"^": 0, "a ^": 2, "a | ^ b": 4} {
		if _, got, err := Parse(text); got != at || err != api.ErrSyntax {
			t.Errorf("Parse of %q: %d %d", text, got, err)
		}
	}
}

// grammar has the rules of texts: what each level may be made of. It is asked in another way than the program's, which goes down from level to level.
func grammar() map[string][][]string {
	g := map[string][][]string{
		"only":  {{"but"}, {"but", "=>", "_"}, {"but", "=>", "but", "_"}, {"but", "=>", "_", "but"}, {"but", "=>", "but", "_", "but"}},
		"chain": {{"ahead"}, {"chain", "ahead"}},
		"ahead": {{"marks"}, {"~", "ahead"}, {"$", "ahead"}},
		"marks": {{"thing"}, {"marks", "*"}, {"marks", "+"}, {"marks", "?"}},
		"thing": {{"a"}, {"<ab>"}, {`\+`}, {"."}, {"[]"}, {"!"}, {"[", "only", "]"}},
	}
	levels := []string{"but", "or", "and", "shuffle", "ignore", "chain"}
	for i, sign := range []string{"-", "|", "&", "%", "/"} {
		g[levels[i]] = [][]string{{levels[i+1]}, {levels[i], sign, levels[i+1]}}
	}
	return g
}

// item is a rule of a level that was begun at a token, with how much of it there is.
type item struct{ level, rule, done, from int }

// viable returns for how many tokens, from the first one on, there are texts that begin with them, and whether all of them are the text of an expression. It goes on with all rules at once.
func viable(tokens []string) (int, bool) {
	g := grammar()
	var names []string
	for name := range g {
		names = append(names, name)
	}
	slices.Sort(names)
	sets := []map[item]bool{{}}
	for i := 0; ; i++ {
		todo := slices.Collect(maps.Keys(sets[i]))
		add := func(x item) {
			if !sets[i][x] {
				sets[i][x] = true
				todo = append(todo, x)
			}
		}
		begin := func(name string) {
			for r := range g[name] {
				add(item{slices.Index(names, name), r, 0, i})
			}
		}
		if i == 0 {
			begin("only")
		}
		next := map[item]bool{}
		whole := false
		for len(todo) > 0 {
			x := todo[0]
			todo = todo[1:]
			name := names[x.level]
			rule := g[name][x.rule]
			if x.done == len(rule) {
				whole = whole || name == "only" && x.from == 0
				for y := range sets[x.from] {
					if l := g[names[y.level]][y.rule]; y.done < len(l) && l[y.done] == name {
						y.done++
						add(y)
					}
				}
			} else if g[rule[x.done]] != nil {
				begin(rule[x.done])
			} else if i < len(tokens) && tokens[i] == rule[x.done] {
				x.done++
				next[x] = true
			}
		}
		if i == len(tokens) || len(next) == 0 {
			return i, whole && i == len(tokens)
		}
		sets = append(sets, next)
	}
}

func TestParseFirstFault(t *testing.T) { // P4.2: no text goes on at the fault, but one does ahead of it
	all := []string{"a", "<ab>", `\+`, ".", "[]", "!", "[", "[", "]", "]", "~", "$", "*", "+", "?", "-", "|", "&", "%", "/", "=>", "=>", "_", "_", "#", "a", "a", "a"}
	r := rand.New(rand.NewSource(2))
	good := 0
	for range 3000 {
		var tokens []string
		want := 0
		for range r.Intn(12) {
			// Mostly such as go on, so that the texts do not end at once.
			token := all[r.Intn(len(all))]
			for range 3 {
				if goes, _ := viable(append(tokens, token)); goes > len(tokens) {
					break
				}
				token = all[r.Intn(len(all))]
			}
			tokens = append(tokens, token)
		}
		many, is := viable(tokens)
		for i, token := range tokens {
			if i < many {
				want += len(token) + 1
			}
		}
		text := strings.Join(tokens, " ")
		if many == len(tokens) {
			want = len(text)
		}
		_, at, err := Parse(text)
		if is {
			good++
			if at != 0 || err != api.OK {
				t.Errorf("Parse of %q: %d %d", text, at, err)
			}
		} else if at != want || err != api.ErrSyntax {
			t.Errorf("Parse of %q: %d %d, not the place %d", text, at, err, want)
		}
	}
	if good < 150 {
		t.Errorf("only %d texts have an expression", good)
	}
}

func TestParseLarge(t *testing.T) { // P4.2
	pad := func(s string, size int) string { return s + strings.Repeat(" ", size-len(s)) }
	for name, c := range map[string]struct {
		text string
		at   int
		want api.Errno
	}{
		"as long as may be":            {pad("a", api.MaxSource), 0, api.OK},
		"too long":                     {pad("a", api.MaxSource+1), 0, api.ErrLarge},
		"too long, and no expression":  {pad("]", api.MaxSource+1), 0, api.ErrLarge},
		"long, and no expression":      {pad("a|", api.MaxSource), api.MaxSource, api.ErrSyntax},
		"nodes":                        {strings.Repeat("a", api.MaxNodes-1), 0, api.OK},
		"too many nodes":               {strings.Repeat("a", api.MaxNodes), 0, api.ErrLarge},
		"too many nodes, and a fault":  {strings.Repeat("a", api.MaxNodes) + "#", api.MaxNodes, api.ErrSyntax},
		"nodes in each other":          {strings.Repeat("~", api.MaxNest-1) + "a", 0, api.OK},
		"too many nodes in each other": {strings.Repeat("~", api.MaxNest) + "a", 0, api.ErrLarge},
		"marks behind each other":      {"a" + strings.Repeat("*", api.MaxNest), 0, api.ErrLarge},
		"too many from the left":       {"a" + strings.Repeat(" - a", api.MaxNest), 0, api.ErrLarge},
		"brackets are no nodes":        {strings.Repeat("[", 2999) + "a" + strings.Repeat("]", 2999), 0, api.OK},
		"brackets that stay open":      {strings.Repeat("[", api.MaxSource), api.MaxSource, api.ErrSyntax},
		"as many signs as may be":      {strings.Repeat("~", api.MaxSource), api.MaxSource, api.ErrSyntax},
		"as many things as may be":     {strings.Repeat("a|", api.MaxSource/2-1) + "aa", 0, api.ErrLarge},
	} {
		e, at, err := Parse(c.text)
		if at != c.at || err != c.want || err != api.OK && !isZero(e) {
			t.Errorf("%s: %d %d", name, at, err)
		}
	}
}

func TestText(t *testing.T) { // P4.3
	// Each of these is the text of its expression.
	for _, s := range []string{
		"a", "Z", "0", "<+Pl>", "<ab>", `\+`, `\\`, `\[`, `\_`, `\=`, ".", "[]", "!",
		"a*", "a*+?", "[]*", "<ab>+", `\**`, "~a", "~$~a", "~a*", "[~a]*", "[$a]+?", "[~a*]?", "$[ab]", "~[a | b]", "~[a => _]", "~[]", "$!",
		"ab", "a~bc", "~ab*", "[ab]*", "[ab]c", "a[bc]", "[ab]*c", "[a | b]c", "a[b / c]", "a[b => _]", "[]a", "!.[]",
		"a / b", "a / b / c", "a / [b / c]", "ab / cd", "[a / b]c", "a / [b % c]", "[a % b] / c", "[a => _] / b",
		"a % b", "a % b % c", "a % [b % c]", "a / b % c / d", "[a & b] % c", "a % [b & c]",
		"a & b", "a & b & c", "[a & b] & c", "a & [b & c]", "a % b & c", "[a | b] & c",
		"a | b", "a | b | c", "[a | b] | c", "a | [b | c]", "a & b | c & d", "a | [b - c]", "a | [b => _]",
		"a - b", "a - b - c", "a - [b - c]", "a | b - c | d", "a - [b => _]", "[a => _] - b",
		"a => b _ c", "a => _ c", "a => b _", "a => _", "a - b => c - d _ e - f", "[a => _] => [b => _] _ [c => _]", "[] => _", "a => []* _ [][]", "[a => b _]*", "! => ! _ !",
		"a => b | c _ d & e", "~a => ~b _ ~c",
	} {
		if got := mustText(t, mustParse(t, s)); got != s {
			t.Errorf("Text of %s: %s", s, got)
		}
	}
	for s, want := range map[string]string{
		"[a]":                "a",
		"a=>[]_[]":           "a => _",
		"[[]]*":              "[]*",
		"a|b&c%d/e-f":        "a | b & c % d / e - f",
		"  a   b * ":         "ab*",
		"[a*]*":              "a**",
		"~[a*]":              "~a*",
		"~[~[a]]":            "~~a",
		"[~a]b":              "~ab",
		"[a - b] - c":        "a - b - c",
		"[a % b] % c":        "a % b % c",
		"[a / b] / c":        "a / b / c",
		"[a & b] | [c]":      "a & b | c",
		"[[a | b] => c _ d]": "a | b => c _ d",
		"[[a]=>[b]_[]]c":     "[a => b _]c",
	} {
		if got := mustText(t, mustParse(t, s)); got != want {
			t.Errorf("Text of %s: %s, not %s", s, got, want)
		}
	}
	// The longest ones.
	e := node(api.EChain, sym(strings.Repeat("x", api.MaxSym)))
	for len(e.L) < api.MaxNodes-1 {
		e.L = append(e.L, e.L[0])
	}
	if s := mustText(t, e); len(s) != 39*18 {
		t.Errorf("%d bytes", len(s))
	}
}

// checkText fails if the text of an expression is not read as the expression, or has brackets that it needs not.
func checkText(t *testing.T, e api.Expr) {
	t.Helper()
	s := mustText(t, e)
	if x, at, err := Parse(s); !Same(x, e) || at != 0 || err != api.OK {
		t.Errorf("Parse of the text %s of %s: %s %d %d", s, shown(e), shown(x), at, err)
	}
	var open []int
	for i := 0; i < len(s); i++ {
		switch {
		case s[i] == '\\' || strings.HasPrefix(s[i:], "[]"):
			i++
		case s[i] == '[':
			open = append(open, i)
		case s[i] == ']':
			from := open[len(open)-1]
			open = open[:len(open)-1]
			without := s[:from] + s[from+1:i] + s[i+1:]
			if x, _, err := Parse(without); Same(x, e) && err == api.OK {
				t.Errorf("%s needs no brackets at %d: %s", s, from, without)
			}
		}
	}
}

func TestThereAndBack(t *testing.T) { // P4.3, S9
	for _, l := range expressions(4, leaves("a")) {
		for _, e := range l {
			checkText(t, e)
		}
	}
	symbols := leaves("a", "+Pl", "+", "[", "]", "\\", "_", "=", "0")
	r := rand.New(rand.NewSource(3))
	for range 20000 {
		if e := some(r, 1+r.Intn(20), symbols); Validate(e) == api.OK {
			checkText(t, e)
		}
	}
}
