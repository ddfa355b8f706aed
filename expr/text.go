package expr

import (
	"strings"

	"ablaut/api"
)

// Text returns the text of an expression, with no more brackets than it needs.
func Text(e api.Expr) (string, api.Errno) {
	if err := Validate(e); err != api.OK {
		return "", err
	}
	// So few nodes never have a text longer than Parse takes.
	return text(e, levelOnly), api.OK
}

// text returns the text of an expression, in brackets if it is looser than the level that is asked for where it stands.
func text(e api.Expr, least int) string {
	s := signOf(e.Op)
	if s.level < least {
		return "[" + text(e, levelOnly) + "]"
	}
	switch s.level {
	case levelOnly:
		return text(e.L[0], levelBut) + " =>" + sideText(e.L[1]) + " _" + sideText(e.L[2])
	case levelChain:
		return between("", e.L, levelAhead, levelAhead)
	case levelAhead:
		return s.text + text(e.L[0], levelAhead)
	case levelBehind:
		return text(e.L[0], levelBehind) + s.text
	case levelThing:
		if e.Op == api.ESym {
			return symbolText(e.S)
		}
		return s.text
	}
	first := s.level + 1
	if isLeft(e.Op) {
		first = s.level // one of the same kind is read as the left one in any case
	}
	return between(" "+s.text+" ", e.L, first, s.level+1)
}

// sideText returns the text of one side of `_` with its blank; of the empty word, nothing.
func sideText(e api.Expr) string {
	if e.Op == api.ENone {
		return ""
	}
	return " " + text(e, levelBut)
}

// between returns the texts of expressions with a text between them; of the first one the level that is asked for is another one.
func between(middle string, l []api.Expr, first, others int) string {
	texts := []string{text(l[0], first)}
	for _, x := range l[1:] {
		texts = append(texts, text(x, others))
	}
	return strings.Join(texts, middle)
}
