package expr

import (
	"math/rand"
	"slices"
	"strings"
	"testing"

	"ablaut/api"
	"ablaut/auto"
	"ablaut/det"
)

// words is a set of words of symbols of one byte.
type words map[string]bool

// universe returns all words over an alphabet of at most so many symbols.
func universe(sigma []string, most int) []string {
	l := []string{""}
	for i := 0; i < len(l); i++ {
		if len(l[i]) < most {
			for _, s := range sigma {
				l = append(l, l[i]+s)
			}
		}
	}
	return l
}

// plain returns the words of an expression over an alphabet that have at most so many symbols: not as the program does it, which cuts a word into parts, but put together from the words of the parts.
func plain(e api.Expr, sigma []string, most int) words {
	var l []words
	for _, x := range e.L {
		l = append(l, plain(x, sigma, most))
	}
	one := words{}
	for _, s := range sigma {
		one[s] = true
	}
	all := words{}
	for _, u := range universe(sigma, most) {
		all[u] = true
	}
	switch e.Op {
	case api.ESym:
		return words{e.S: true}
	case api.EAny:
		return one
	case api.ENone:
		return words{"": true}
	case api.EVoid:
		return nil
	case api.EChain:
		w := words{"": true}
		for _, x := range l {
			w = w.chain(x, most)
		}
		return w
	case api.EOr:
		return all.where(func(u string) bool { return slices.ContainsFunc(l, func(x words) bool { return x[u] }) })
	case api.EAnd:
		return all.where(func(u string) bool { return !slices.ContainsFunc(l, func(x words) bool { return !x[u] }) })
	case api.EBut:
		return all.where(func(u string) bool { return l[0][u] && !l[1][u] })
	case api.EStar:
		return l[0].star(most)
	case api.EPlus:
		return l[0].chain(l[0].star(most), most)
	case api.EOpt:
		return all.where(func(u string) bool { return u == "" || l[0][u] })
	case api.ENot:
		return all.where(func(u string) bool { return !l[0][u] })
	case api.EHas:
		return all.where(func(u string) bool {
			for x := range l[0] {
				if strings.Contains(u, x) {
					return true
				}
			}
			return false
		})
	case api.EIgnore:
		return l[0].ignore(l[1].star(most), most)
	case api.EOnly:
		return all.where(func(u string) bool { return only3(u, l[0], l[1], l[2]) })
	case api.EShuffle:
		w := words{}
		for x := range l[0] {
			for y := range l[1] {
				w.interleave("", x, y, most)
			}
		}
		return w
	}
	panic("no operation")
}

func (w words) where(holds func(u string) bool) words {
	r := words{}
	for u := range w {
		if holds(u) {
			r[u] = true
		}
	}
	return r
}

func (w words) chain(v words, most int) words {
	r := words{}
	for x := range w {
		for y := range v {
			if len(x)+len(y) <= most {
				r[x+y] = true
			}
		}
	}
	return r
}

func (w words) star(most int) words {
	r := words{"": true}
	for {
		more := r.chain(w, most)
		size := len(r)
		for u := range more {
			r[u] = true
		}
		if len(r) == size {
			return r
		}
	}
}

// ignore returns the words with those of put ahead, behind and between their symbols.
func (w words) ignore(put words, most int) words {
	r := words{}
	for u := range w {
		v := put
		for i := range u {
			v = v.chain(words{u[i : i+1]: true}, most).chain(put, most)
		}
		for x := range v {
			r[x] = true
		}
	}
	return r
}

// interleave adds all ways to put x and y into each other, behind u.
func (w words) interleave(u, x, y string, most int) {
	if len(u)+len(x)+len(y) > most {
		return
	}
	if x == "" || y == "" {
		w[u+x+y] = true
		return
	}
	w.interleave(u+x[:1], x[1:], y, most)
	w.interleave(u+y[:1], x, y[1:], most)
}

// only3 reports whether each word of a in u stands behind one of l and ahead of one of r.
func only3(u string, a, l, r words) bool {
	for i := range len(u) + 1 {
		for k := i; k <= len(u); k++ {
			ends, begins := false, false
			for x := range l {
				ends = ends || strings.HasSuffix(u[:i], x)
			}
			for x := range r {
				begins = begins || strings.HasPrefix(u[k:], x)
			}
			if a[u[i:k]] && !(ends && begins) {
				return false
			}
		}
	}
	return true
}

// leaves returns the nodes without others, of some symbols.
func leaves(symbols ...string) []api.Expr {
	l := []api.Expr{{Op: api.EAny}, {Op: api.ENone}, {Op: api.EVoid}}
	for _, s := range symbols {
		l = append(l, api.Expr{Op: api.ESym, S: s})
	}
	return l
}

// opsOf returns the operations that take so many others.
func opsOf(many int) []int {
	switch many {
	case 1:
		return []int{api.EStar, api.EPlus, api.EOpt, api.ENot, api.EHas}
	case 2:
		return []int{api.EChain, api.EOr, api.EAnd, api.EBut, api.EIgnore, api.EShuffle}
	case 3:
		return []int{api.EChain, api.EOr, api.EAnd, api.EOnly}
	}
	return []int{api.EChain, api.EOr, api.EAnd}
}

// expressions returns for each number of nodes up to most all expressions of so many nodes over some leaves.
func expressions(most int, leaves []api.Expr) [][]api.Expr {
	all := [][]api.Expr{nil, leaves}
	// lists returns all lists of so many expressions with so many nodes together.
	var lists func(many, nodes int) [][]api.Expr
	lists = func(many, nodes int) [][]api.Expr {
		if many == 1 {
			var l [][]api.Expr
			for _, x := range all[nodes] {
				l = append(l, []api.Expr{x})
			}
			return l
		}
		var l [][]api.Expr
		for first := 1; first <= nodes-many+1; first++ {
			for _, rest := range lists(many-1, nodes-first) {
				for _, x := range all[first] {
					l = append(l, append([]api.Expr{x}, rest...))
				}
			}
		}
		return l
	}
	for nodes := 2; nodes <= most; nodes++ {
		var l []api.Expr
		for many := 1; many < nodes; many++ {
			for _, x := range lists(many, nodes-1) {
				for _, op := range opsOf(many) {
					l = append(l, api.Expr{Op: op, L: x})
				}
			}
		}
		all = append(all, l)
	}
	return all
}

// some returns an expression of so many nodes that chance chooses.
func some(r *rand.Rand, nodes int, leaves []api.Expr) api.Expr {
	if nodes == 1 {
		return leaves[r.Intn(len(leaves))]
	}
	many := 1 + r.Intn(min(nodes-1, 4))
	ops := opsOf(many)
	e := api.Expr{Op: ops[r.Intn(len(ops))]}
	left := nodes - 1
	for i := range many {
		size := left
		if i < many-1 {
			size = 1 + r.Intn(left-(many-1-i))
		}
		e.L = append(e.L, some(r, size, leaves))
		left -= size
	}
	return e
}

// checkPlain fails if Holds or Compile has other words than the plain ones, up to some length.
func checkPlain(t *testing.T, e api.Expr, sigma []string, most int) {
	t.Helper()
	want := plain(e, sigma, most)
	n, err := Compile(e, sigma)
	if err != api.OK {
		t.Errorf("Compile of %s over %q: %d", mustText(t, e), sigma, err)
		return
	}
	for _, u := range universe(sigma, most) {
		w := word(u)
		if is, err := Holds(e, sigma, w); is != want[u] || err != api.OK {
			t.Errorf("Holds of %s over %q: %q %v %d", mustText(t, e), sigma, u, is, err)
		}
		if is, err := auto.Accepts(n, w); is != want[u] || err != api.OK {
			t.Errorf("Compile of %s over %q: %q %v %d", mustText(t, e), sigma, u, is, err)
		}
	}
	if is, err := det.IsMin(n); !is || err != api.OK || !slices.Equal(n.Sigma, sigma) {
		t.Errorf("Compile of %s over %q is not minimal: %v", mustText(t, e), sigma, n)
	}
}

func TestPlain(t *testing.T) { // P4.4
	for nodes, l := range expressions(4, leaves("a")) {
		for i, e := range l {
			checkPlain(t, e, word("ab"), 4)
			if nodes < 4 || i%5 == 0 {
				checkPlain(t, e, word("a"), 6)
			}
		}
	}
	for _, l := range expressions(3, leaves("a", "b")) {
		for _, e := range l {
			checkPlain(t, e, word("ab"), 4)
			checkPlain(t, e, word("abc"), 3)
		}
	}
	for _, l := range expressions(4, leaves()) {
		for _, e := range l {
			checkPlain(t, e, nil, 2)
		}
	}
}

func TestPlainOfMany(t *testing.T) { // P4.4
	r := rand.New(rand.NewSource(4))
	for range 1500 {
		checkPlain(t, some(r, 5+r.Intn(4), leaves("a", "b", "a", "b")), word("ab"), 4)
	}
}

func TestHoldsOfLong(t *testing.T) { // P4.4: of longer words both ways tell the same
	r := rand.New(rand.NewSource(5))
	for range 1500 {
		e := some(r, 4+r.Intn(6), leaves("a", "b", "a", "b"))
		n, err := Compile(e, word("ab"))
		if err != api.OK {
			t.Errorf("Compile of %s: %d", mustText(t, e), err)
			continue
		}
		long := api.MaxWord
		if picks(e) {
			long = maxPicked
		}
		for range 8 {
			var w []string
			for range r.Intn(long + 1) {
				w = append(w, word("ab")[r.Intn(2)])
			}
			is, err := Holds(e, word("ab"), w)
			accepts, err2 := auto.Accepts(n, w)
			if is != accepts || err != api.OK || err2 != api.OK {
				t.Errorf("%s: %q: %v %d, %v %d", mustText(t, e), w, is, err, accepts, err2)
			}
		}
	}
}

func TestNeverLarge(t *testing.T) { // P4.4: at most 6 nodes over at most 3 symbols
	sigma := word("abc")
	for _, l := range expressions(4, leaves(sigma...)) {
		for _, e := range l {
			if _, err := Compile(e, sigma); err != api.OK {
				t.Errorf("%s: %d", mustText(t, e), err)
			}
		}
	}
	r := rand.New(rand.NewSource(6))
	for range 30000 {
		e := some(r, 5+r.Intn(2), leaves(sigma...))
		if _, err := Compile(e, sigma); err != api.OK {
			t.Errorf("%s: %d", mustText(t, e), err)
		}
	}
}
