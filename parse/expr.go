package parse

import "augur/api"

func (p *parser) cond() *api.Cond {
	c := p.and()
	for p.passes("||") {
		c = &api.Cond{Kind: api.COr, P: c, Q: p.and()}
	}
	return c
}

func (p *parser) and() *api.Cond {
	c := p.not()
	for p.passes("&&") {
		c = &api.Cond{Kind: api.CAnd, P: c, Q: p.not()}
	}
	return c
}

func (p *parser) not() *api.Cond {
	switch {
	case p.sees("!"):
		return &api.Cond{Kind: api.CNot, P: within(p, "!", p.not)}
	case p.sees("("):
		c := within(p, "(", p.cond)
		p.pass(")")
		return c
	case p.seesNullTest():
		return p.nullTest()
	}
	return p.comparison()
}

// seesNullTest tells whether the next tokens test a pointer for null. What else begins with a name is a comparison, also where null stands wrongly in it.
func (p *parser) seesNullTest() bool {
	return p.seesName() && (p.text(1) == "==" || p.text(1) == "!=") && p.text(2) == "null"
}

func (p *parser) nullTest() *api.Cond {
	c := &api.Cond{Kind: api.CNull, Name: p.name()}
	if p.passes("!=") {
		c = &api.Cond{Kind: api.CNot, P: c}
	} else {
		p.pass("==")
	}
	p.pass("null")
	return c
}

func (p *parser) comparison() *api.Cond {
	c := &api.Cond{A: p.sum()}
	switch {
	case p.passes("!="):
		c.Kind = api.CNe
	case p.passes("<"):
		c.Kind = api.CLt
	case p.passes("<="):
		c.Kind = api.CLe
	case p.passes(">"):
		c.Kind = api.CGt
	case p.passes(">="):
		c.Kind = api.CGe
	default:
		p.pass("==")
		c.Kind = api.CEq
	}
	c.B = p.sum()
	return c
}

func (p *parser) sum() *api.Expr {
	e := p.product()
	for {
		switch {
		case p.passes("+"):
			e = &api.Expr{Kind: api.EAdd, A: e, B: p.product()}
		case p.passes("-"):
			e = &api.Expr{Kind: api.ESub, A: e, B: p.product()}
		default:
			return e
		}
	}
}

func (p *parser) product() *api.Expr {
	e := p.unary()
	for {
		switch {
		case p.passes("*"):
			e = &api.Expr{Kind: api.EMul, A: e, B: p.unary()}
		case p.passes("/"):
			e = &api.Expr{Kind: api.EDiv, A: e, B: p.unary()}
		case p.passes("%"):
			e = &api.Expr{Kind: api.EMod, A: e, B: p.unary()}
		default:
			return e
		}
	}
}

func (p *parser) unary() *api.Expr {
	switch {
	case p.sees("-"):
		return &api.Expr{Kind: api.ENeg, A: within(p, "-", p.unary)}
	case p.sees("("):
		e := within(p, "(", p.sum)
		p.pass(")")
		return e
	case p.seesNumber():
		e := &api.Expr{Kind: api.ENum, N: p.number()}
		p.take()
		return e
	}
	return &api.Expr{Kind: api.EVar, Name: p.name()}
}
