package expr

import (
	"slices"

	"ablaut/api"
)

// Simple returns an expression of the same words over each alphabet that has the symbols of e, with at most as many nodes.
func Simple(e api.Expr) (api.Expr, api.Errno) {
	if err := Validate(e); err != api.OK {
		return api.Expr{}, err
	}
	// Each operation leaves fewer nodes, or as many with more stars among them, or else all as it is: so this ends, and what is returned is left as it is.
	operations := simpler()
	for {
		s := value(e, operations)
		if Same(s, e) {
			return s, api.OK
		}
		e = s
	}
}

// simpler returns the operations of expressions that are made simpler. None gives nodes more nodes in each other than there were.
func simpler() map[int]func(s string, l []api.Expr) api.Expr {
	return map[int]func(s string, l []api.Expr) api.Expr{
		api.ESym:     func(s string, l []api.Expr) api.Expr { return api.Expr{Op: api.ESym, S: s} },
		api.EAny:     func(s string, l []api.Expr) api.Expr { return node(api.EAny) },
		api.ENone:    func(s string, l []api.Expr) api.Expr { return node(api.ENone) },
		api.EVoid:    func(s string, l []api.Expr) api.Expr { return node(api.EVoid) },
		api.EChain:   func(s string, l []api.Expr) api.Expr { return simpleChain(l) },
		api.EOr:      func(s string, l []api.Expr) api.Expr { return simpleOr(l) },
		api.EAnd:     func(s string, l []api.Expr) api.Expr { return simpleAnd(l) },
		api.EBut:     func(s string, l []api.Expr) api.Expr { return simpleBut(l[0], l[1]) },
		api.EStar:    func(s string, l []api.Expr) api.Expr { return simpleStar(l[0]) },
		api.EPlus:    func(s string, l []api.Expr) api.Expr { return simplePlus(l[0]) },
		api.EOpt:     func(s string, l []api.Expr) api.Expr { return simpleOpt(l[0]) },
		api.ENot:     func(s string, l []api.Expr) api.Expr { return simpleNot(l[0]) },
		api.EHas:     func(s string, l []api.Expr) api.Expr { return simpleHas(l[0]) },
		api.EIgnore:  func(s string, l []api.Expr) api.Expr { return simpleIgnore(l[0], l[1]) },
		api.EOnly:    func(s string, l []api.Expr) api.Expr { return simpleOnly(l[0], l[1], l[2]) },
		api.EShuffle: func(s string, l []api.Expr) api.Expr { return simpleShuffle(l[0], l[1]) },
	}
}

// anyWord returns the expression of all words.
func anyWord() api.Expr { return node(api.EStar, node(api.EAny)) }

func isAnyWord(e api.Expr) bool { return Same(e, anyWord()) }

func isVoid(e api.Expr) bool { return e.Op == api.EVoid }

func isNone(e api.Expr) bool { return e.Op == api.ENone }

// hasEmpty reports whether the empty word is a word of an expression: over all alphabets, since no symbol is asked for.
func hasEmpty(e api.Expr) bool { return meaningOf(e, nil)(0) }

// isRepeated reports whether an expression is of its only one with a mark behind it. Where any number of words are taken in any case, the mark makes no difference.
func isRepeated(e api.Expr) bool {
	return e.Op == api.EStar || e.Op == api.EPlus || e.Op == api.EOpt
}

// flat returns a list in which those of an operation are replaced by what is in their lists.
func flat(op int, l []api.Expr) []api.Expr {
	var r []api.Expr
	for _, x := range l {
		if x.Op == op {
			r = append(r, x.L...)
		} else {
			r = append(r, x)
		}
	}
	return r
}

// distinct returns a list without those that stand in it already.
func distinct(l []api.Expr) []api.Expr {
	var r []api.Expr
	for _, x := range l {
		if !slices.ContainsFunc(r, func(y api.Expr) bool { return Same(x, y) }) {
			r = append(r, x)
		}
	}
	return r
}

// grouping returns a node of two expressions or more, the only one, or what stands for none.
func grouping(op int, l []api.Expr, empty api.Expr) api.Expr {
	if len(l) == 0 {
		return empty
	}
	return grouped(op, l)
}

func simpleChain(l []api.Expr) api.Expr {
	if slices.ContainsFunc(l, isVoid) {
		return node(api.EVoid)
	}
	l = slices.DeleteFunc(flat(api.EChain, l), isNone)
	return grouping(api.EChain, l, node(api.ENone))
}

func simpleOr(l []api.Expr) api.Expr {
	if slices.ContainsFunc(l, isAnyWord) {
		return anyWord()
	}
	l = distinct(slices.DeleteFunc(flat(api.EOr, l), isVoid))
	rest := slices.DeleteFunc(slices.Clone(l), isNone)
	switch {
	case slices.ContainsFunc(rest, hasEmpty):
		l = rest
	case len(rest) == 1 && len(l) == 2:
		return node(api.EOpt, rest[0])
	}
	return grouping(api.EOr, l, node(api.EVoid))
}

func simpleAnd(l []api.Expr) api.Expr {
	if slices.ContainsFunc(l, isVoid) {
		return node(api.EVoid)
	}
	l = distinct(slices.DeleteFunc(flat(api.EAnd, l), isAnyWord))
	return grouping(api.EAnd, l, anyWord())
}

func simpleBut(a, b api.Expr) api.Expr {
	switch {
	case isVoid(a) || isAnyWord(b) || Same(a, b):
		return node(api.EVoid)
	case isVoid(b):
		return a
	case isAnyWord(a):
		return node(api.ENot, b)
	}
	return node(api.EBut, a, b)
}

func simpleStar(a api.Expr) api.Expr {
	switch {
	case isVoid(a) || isNone(a):
		return node(api.ENone)
	case isRepeated(a):
		return node(api.EStar, a.L[0])
	}
	return node(api.EStar, a)
}

func simplePlus(a api.Expr) api.Expr {
	switch {
	case isVoid(a) || a.Op == api.EPlus:
		return a
	case hasEmpty(a):
		return node(api.EStar, a)
	}
	return node(api.EPlus, a)
}

func simpleOpt(a api.Expr) api.Expr {
	switch {
	case isVoid(a):
		return node(api.ENone)
	case hasEmpty(a):
		return a
	case a.Op == api.EPlus:
		return node(api.EStar, a.L[0])
	}
	return node(api.EOpt, a)
}

func simpleNot(a api.Expr) api.Expr {
	switch {
	case isVoid(a):
		return anyWord()
	case isAnyWord(a):
		return node(api.EVoid)
	case a.Op == api.ENot:
		return a.L[0]
	}
	return node(api.ENot, a)
}

func simpleHas(a api.Expr) api.Expr {
	switch {
	case isVoid(a) || a.Op == api.EHas:
		return a
	case hasEmpty(a):
		return anyWord()
	case a.Op == api.EPlus:
		return node(api.EHas, a.L[0])
	}
	return node(api.EHas, a)
}

func simpleIgnore(a, b api.Expr) api.Expr {
	switch {
	case isVoid(a) || isAnyWord(a) || isVoid(b) || isNone(b):
		return a
	case isNone(a):
		return node(api.EStar, b)
	case isRepeated(b):
		return node(api.EIgnore, a, b.L[0])
	}
	return node(api.EIgnore, a, b)
}

func simpleOnly(a, l, r api.Expr) api.Expr {
	if isVoid(a) || hasEmpty(l) && hasEmpty(r) {
		return anyWord()
	}
	return node(api.EOnly, a, l, r)
}

func simpleShuffle(a, b api.Expr) api.Expr {
	switch {
	case isVoid(a) || isNone(b):
		return a
	case isVoid(b) || isNone(a):
		return b
	}
	return node(api.EShuffle, a, b)
}
