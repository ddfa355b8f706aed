// Package syms has symbols, alphabets and words: chapter doc/01-syms.md of the document.
package syms

import (
	"slices"
	"strings"

	"ablaut/api"
)

// Validate returns the error of a list that is to be an alphabet.
func Validate(sigma []string) api.Errno {
	if tooLarge(sigma, api.MaxSigma) {
		return api.ErrLarge
	}
	for i, s := range sigma {
		if !isSymbol(s) || i > 0 && sigma[i-1] >= s {
			return api.ErrArg
		}
	}
	return api.OK
}

// ValidateWord returns the error of a list that is to be a word.
func ValidateWord(w []string) api.Errno {
	if tooLarge(w, api.MaxWord) {
		return api.ErrLarge
	}
	for _, s := range w {
		if !isSymbol(s) {
			return api.ErrArg
		}
	}
	return api.OK
}

// tooLarge reports whether a list has more than most texts, or a text too long for a symbol. It looks at the whole list, because ErrLarge of a later text is named ahead of ErrArg of an earlier one.
func tooLarge(l []string, most int) bool {
	return len(l) > most || slices.ContainsFunc(l, func(s string) bool { return len(s) > api.MaxSym })
}

// isSymbol reports whether a text is a symbol.
func isSymbol(s string) bool {
	if s == "" || len(s) > api.MaxSym {
		return false
	}
	for i := range len(s) {
		if !isPlain(s[i]) {
			return false
		}
	}
	return true
}

// isPlain reports whether a byte may stand in a symbol.
func isPlain(c byte) bool {
	return c >= 33 && c <= 126 && c != '<' && c != '>'
}

// Text returns the text of a word.
func Text(w []string) (string, api.Errno) {
	if e := ValidateWord(w); e != api.OK {
		return "", e
	}
	var b strings.Builder
	for _, s := range w {
		if len(s) == 1 {
			b.WriteString(s)
		} else {
			b.WriteString("<" + s + ">")
		}
	}
	if b.Len() > api.MaxText {
		return "", api.ErrLarge
	}
	return b.String(), api.OK
}

// Read returns the word of a text.
func Read(s string) ([]string, api.Errno) {
	if len(s) > api.MaxText {
		return nil, api.ErrLarge
	}
	var w []string
	for at := 0; at < len(s); {
		x, size := written(s[at:])
		if size == 0 {
			return nil, api.ErrSyntax
		}
		w = append(w, x)
		at += size
	}
	// Only here: a fault of the form anywhere in the text is named ahead of too many symbols.
	if len(w) > api.MaxWord {
		return nil, api.ErrLarge
	}
	return w, api.OK
}

// written returns the symbol that is written at the begin of a text that is not empty, and how many bytes it takes there; 0 bytes if none is.
func written(s string) (string, int) {
	if isPlain(s[0]) {
		return s[:1], 1
	}
	end := strings.IndexByte(s, '>')
	if s[0] != '<' || end < 0 {
		return "", 0
	}
	x := s[1:end]
	// One byte between both is refused, so that each word has one text only.
	if len(x) < 2 || !isSymbol(x) {
		return "", 0
	}
	return x, end + 1
}

// Raw returns the raw text of a word.
func Raw(w []string) (string, api.Errno) {
	if e := ValidateWord(w); e != api.OK {
		return "", e
	}
	return strings.Join(w, ""), api.OK
}

// Is reports whether all symbols of w are in sigma.
func Is(w, sigma []string) bool {
	// Both may be lists of any length, and in any order: a map spares going through sigma for each symbol.
	known := make(map[string]bool, len(sigma))
	for _, s := range sigma {
		known[s] = true
	}
	return !slices.ContainsFunc(w, func(s string) bool { return !known[s] })
}

// Split cuts a text into symbols, at each place the longest one; where none fits it returns the place.
func Split(s string, sigma []string) ([]string, int, api.Errno) {
	if e := Validate(sigma); e != api.OK {
		return nil, 0, e
	}
	if len(s) > api.MaxText {
		return nil, 0, api.ErrLarge
	}
	var w []string
	for at := 0; at < len(s); {
		x := longest(s[at:], sigma)
		if x == "" {
			return nil, at, api.ErrNone
		}
		w = append(w, x)
		at += len(x)
	}
	// Only here: a place where no symbol fits is named ahead of too many symbols.
	if len(w) > api.MaxWord {
		return nil, 0, api.ErrLarge
	}
	return w, 0, api.OK
}

// longest returns the longest symbol of an alphabet that a text begins with; the empty text if there is none.
func longest(s string, sigma []string) string {
	best := ""
	for _, x := range sigma {
		if len(x) > len(best) && strings.HasPrefix(s, x) {
			best = x
		}
	}
	return best
}

// Cuts returns in how many ways a text is cut into symbols, or MaxCount if there are more.
func Cuts(s string, sigma []string) (int, api.Errno) {
	if e := Validate(sigma); e != api.OK {
		return 0, e
	}
	if len(s) > api.MaxText {
		return 0, api.ErrLarge
	}
	ways := make([]int, len(s)+1) // of what stands behind each place
	ways[len(s)] = 1
	for at := len(s) - 1; at >= 0; at-- {
		for _, x := range sigma {
			if strings.HasPrefix(s[at:], x) {
				// Each sum is cut at once: of long texts the numbers would not fit an int.
				ways[at] = min(ways[at]+ways[at+len(x)], api.MaxCount)
			}
		}
	}
	return ways[0], api.OK
}

// Compare compares two lists of texts in shortlex order.
func Compare(a, b []string) int {
	if len(a) < len(b) {
		return -1
	}
	if len(a) > len(b) {
		return 1
	}
	return slices.Compare(a, b)
}

// Sorted returns words in shortlex order, each once.
func Sorted(l [][]string) ([][]string, api.Errno) {
	if len(l) > api.MaxRows {
		return nil, api.ErrLarge
	}
	for _, w := range l {
		if e := ValidateWord(w); e != api.OK {
			return nil, e
		}
	}
	words := set(l, Compare, func([]string) bool { return true })
	// The words still share their memory with those of l.
	for i, w := range words {
		words[i] = slices.Clone(w)
	}
	return words, api.OK
}

// Either returns the symbols of a or b.
func Either(a, b []string) ([]string, api.Errno) {
	if e := validateBoth(a, b); e != api.OK {
		return nil, e
	}
	l := set(slices.Concat(a, b), strings.Compare, func(string) bool { return true })
	if len(l) > api.MaxSigma {
		return nil, api.ErrLarge
	}
	return l, api.OK
}

// Both returns the symbols of a and b.
func Both(a, b []string) ([]string, api.Errno) {
	if e := validateBoth(a, b); e != api.OK {
		return nil, e
	}
	return set(a, strings.Compare, func(s string) bool { return slices.Contains(b, s) }), api.OK
}

// Less returns the symbols of a that are not in b.
func Less(a, b []string) ([]string, api.Errno) {
	if e := validateBoth(a, b); e != api.OK {
		return nil, e
	}
	return set(a, strings.Compare, func(s string) bool { return !slices.Contains(b, s) }), api.OK
}

// validateBoth returns the error of the first one of two alphabets that has one.
func validateBoth(a, b []string) api.Errno {
	if e := Validate(a); e != api.OK {
		return e
	}
	return Validate(b)
}

// set returns those things of a list that keep asks for, in order, each once. The list stays as it is.
func set[T any](l []T, order func(x, y T) int, keep func(x T) bool) []T {
	var kept []T
	for _, x := range l {
		if keep(x) {
			kept = append(kept, x)
		}
	}
	slices.SortFunc(kept, order)
	return slices.CompactFunc(kept, func(x, y T) bool { return order(x, y) == 0 })
}
