package expr

import "ablaut/api"

// Parse returns the expression of a text; of a text that is none, the place of its fault.
func Parse(s string) (api.Expr, int, api.Errno) {
	if len(s) > api.MaxSource {
		return api.Expr{}, 0, api.ErrLarge
	}
	e, at, ok := parsed(s)
	if !ok {
		return api.Expr{}, at, api.ErrSyntax
	}
	if err := Validate(e); err != api.OK {
		return api.Expr{}, 0, err
	}
	return e, 0, api.OK
}

// fault is the place of a fault in a text, with which the parser is left by a panic.
type fault int

// parsed returns the expression of a text, which may be too large; if there is none, the place of the fault, and false.
func parsed(s string) (e api.Expr, at int, ok bool) {
	defer func() {
		if f, is := recover().(fault); is {
			e, at, ok = api.Expr{}, int(f), false
		}
	}()
	p := parser{text: s}
	p.take()
	e = p.whole()
	p.want("")
	return e, 0, true
}

// parser goes through a text token by token. Each function leaves it at the first token that it has not used; since none uses a token before it is known to fit, the first fault that is met is the first one of the text.
type parser struct {
	text  string
	token token
}

// take goes on to the next token.
func (p *parser) take() {
	t, ok := scan(p.text, p.token.to)
	p.token = t
	if !ok {
		p.fail()
	}
}

// fail leaves the parser: the token does not fit.
func (p *parser) fail() { panic(fault(p.token.from)) }

// want leaves the parser if the token is of another kind.
func (p *parser) want(kind string) {
	if p.token.kind != kind {
		p.fail()
	}
}

// whole returns an expression of any level.
func (p *parser) whole() api.Expr {
	a := p.joined(levelBut)
	if p.token.kind != signs[levelOnly].text {
		return a
	}
	p.take()
	l := p.side()
	p.want("_")
	p.take()
	return node(api.EOnly, a, l, p.side())
}

// side returns what stands on one side of `_`, or the empty word if nothing does.
func (p *parser) side() api.Expr {
	switch p.token.kind {
	case "_", "]", "":
		return api.Expr{Op: api.ENone}
	}
	return p.joined(levelBut)
}

// joined returns an expression of a level from that of `-` to that of chains, or of a tighter one.
func (p *parser) joined(level int) api.Expr {
	if level == levelChain {
		return p.chain()
	}
	sign := signs[level]
	l := []api.Expr{p.joined(level + 1)}
	for p.token.kind == sign.text {
		p.take()
		l = append(l, p.joined(level+1))
		if isLeft(sign.op) {
			l = []api.Expr{node(sign.op, l...)}
		}
	}
	return grouped(sign.op, l)
}

// chain returns things one behind the other, or one alone.
func (p *parser) chain() api.Expr {
	l := []api.Expr{p.thing()}
	for p.begins() {
		l = append(l, p.thing())
	}
	return grouped(api.EChain, l)
}

// begins reports whether the token begins a thing.
func (p *parser) begins() bool {
	_, ahead := opAt(levelAhead, p.token.kind)
	_, thing := opAt(levelThing, p.token.kind)
	return ahead || thing || p.token.kind == "["
}

// thing returns a thing with what stands ahead of it and with its marks, which are tighter.
func (p *parser) thing() api.Expr {
	if op, is := opAt(levelAhead, p.token.kind); is {
		p.take()
		return node(op, p.thing())
	}
	e := p.bare()
	for {
		op, is := opAt(levelBehind, p.token.kind)
		if !is {
			return e
		}
		p.take()
		e = node(op, e)
	}
}

// bare returns a thing without marks.
func (p *parser) bare() api.Expr {
	op, is := opAt(levelThing, p.token.kind)
	e := api.Expr{Op: op, S: p.token.symbol}
	if !is {
		p.want("[")
		p.take()
		e = p.whole()
		p.want("]")
	}
	p.take()
	return e
}

// node returns a node of other ones.
func node(op int, l ...api.Expr) api.Expr {
	return api.Expr{Op: op, L: l}
}

// grouped returns a node of two expressions or more; of one it is this one.
func grouped(op int, l []api.Expr) api.Expr {
	if len(l) == 1 {
		return l[0]
	}
	return node(op, l...)
}
