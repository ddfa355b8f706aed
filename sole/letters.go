package sole

import (
	"slices"
	"strings"
)

// letters returns a word as a text of one byte for each symbol, its number in the alphabet: such texts are cut, compared and kept as keys.
func letters(w, sigma []string) string {
	var b strings.Builder
	for _, s := range w {
		x, _ := slices.BinarySearch(sigma, s)
		b.WriteByte(byte(x))
	}
	return b.String()
}

// word returns the word of such a text.
func word(s string, sigma []string) []string {
	var w []string
	for i := range len(s) {
		w = append(w, sigma[s[i]])
	}
	return w
}

// shared returns how many letters two texts begin with in common.
func shared(a, b string) int {
	n := min(len(a), len(b))
	if a[:n] == b[:n] { // most often, and much faster asked as a whole
		return n
	}
	for i := range n {
		if a[i] != b[i] {
			return i
		}
	}
	return n
}

// gap is what one of two ways has written and the other one has yet to write: one of both is empty, or they are apart, because they have written unlike symbols at one place.
type gap struct {
	a, b  string
	apart bool
}

// after returns the gap when both have written on.
func (g gap) after(a, b string) gap {
	if g.apart {
		return g
	}
	a, b = g.a+a, g.b+b
	n := shared(a, b)
	a, b = a[n:], b[n:]
	if a != "" && b != "" {
		return gap{apart: true}
	}
	return gap{a: a, b: b}
}
