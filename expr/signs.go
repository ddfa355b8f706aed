package expr

import (
	"strings"

	"ablaut/api"
	"ablaut/syms"
)

// The levels of the operations in texts, from the loosest to the tightest.
const (
	levelOnly = iota
	levelBut
	levelOr
	levelAnd
	levelShuffle
	levelIgnore
	levelChain
	levelAhead  // of what stands ahead of one thing
	levelBehind // of the marks behind one thing
	levelThing
)

// sign is how an operation is written: its level, and the text by which it is known there.
type sign struct {
	op, level int
	text      string
}

// signs has all operations; those of the looser levels, of which each has one, stand at the numbers of these.
var signs = [...]sign{
	{api.EOnly, levelOnly, "=>"},
	{api.EBut, levelBut, "-"},
	{api.EOr, levelOr, "|"},
	{api.EAnd, levelAnd, "&"},
	{api.EShuffle, levelShuffle, "%"},
	{api.EIgnore, levelIgnore, "/"},
	{api.EChain, levelChain, ""},
	{api.ENot, levelAhead, "~"},
	{api.EHas, levelAhead, "$"},
	{api.EStar, levelBehind, "*"},
	{api.EPlus, levelBehind, "+"},
	{api.EOpt, levelBehind, "?"},
	{api.EAny, levelThing, "."},
	{api.ENone, levelThing, "[]"},
	{api.EVoid, levelThing, "!"},
	{api.ESym, levelThing, symbolKind},
}

// isLeft reports whether an operation of two takes what stands ahead of it, from the left on; the others between things take all their neighbours at once.
func isLeft(op int) bool {
	return op == api.EBut || op == api.EShuffle || op == api.EIgnore
}

// signOf returns the sign of an operation.
func signOf(op int) sign {
	for _, x := range signs {
		if x.op == op {
			return x
		}
	}
	return sign{}
}

// opAt returns the operation of a level that is written so, and whether there is one.
func opAt(level int, text string) (int, bool) {
	for _, x := range signs {
		if x.level == level && x.text == text {
			return x.op, true
		}
	}
	return 0, false
}

// symbolKind is the kind of all tokens that are symbols; no token is written so.
const symbolKind = "symbol"

// token is a token of a text: its kind (that of a sign is the sign itself, that of the end is empty), its symbol if it is one, and where it begins and ends.
type token struct {
	kind, symbol string
	from, to     int
}

// scan returns the first token of s from a place on, and whether there is one, or the end; if not, its place is that of the byte that begins none.
func scan(s string, at int) (token, bool) {
	for at < len(s) && s[at] == ' ' {
		at++
	}
	if at == len(s) {
		return token{from: at, to: at}, true
	}
	if x, size := written(s[at:]); size > 0 {
		return token{symbolKind, x, at, at + size}, true
	}
	size := signAt(s[at:])
	return token{kind: s[at : at+size], from: at, to: at + size}, size > 0
}

// signAt returns how many bytes of a text that is not empty are a sign at its begin; 0 if none.
func signAt(s string) int {
	if strings.HasPrefix(s, "=>") || strings.HasPrefix(s, "[]") {
		return 2
	}
	if strings.IndexByte("_-|&%/~$*+?.![]", s[0]) >= 0 {
		return 1
	}
	return 0
}

// written returns the symbol that is written at the begin of a text that is not empty, and how many bytes it takes there; 0 bytes if none is.
func written(s string) (string, int) {
	if isLetter(s[0]) {
		return s[:1], 1
	}
	if s[0] == '\\' && len(s) > 1 && !isLetter(s[1]) && isSymbol(s[1:2]) {
		return s[1:2], 2
	}
	if s[0] != '<' {
		return "", 0
	}
	end := strings.IndexByte(s, '>') + 1
	// There it is written as in the text of a word.
	w, err := syms.Read(s[:end])
	if err != api.OK || len(w) == 0 {
		return "", 0
	}
	return w[0], end
}

// isLetter reports whether a byte is a letter or a digit.
func isLetter(c byte) bool {
	return 'a' <= c && c <= 'z' || 'A' <= c && c <= 'Z' || '0' <= c && c <= '9'
}

// symbolText returns the text of a symbol.
func symbolText(s string) string {
	if len(s) > 1 {
		return "<" + s + ">"
	}
	if isLetter(s[0]) {
		return s
	}
	return `\` + s
}
