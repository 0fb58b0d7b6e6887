package parse

import "augur/api"

// stmts reads the statements up to the end of their block.
func (p *parser) stmts() []api.Stmt {
	var l []api.Stmt
	for !p.sees("}") {
		l = append(l, p.stmt())
	}
	return l
}

func (p *parser) block() []api.Stmt {
	l := within(p, "{", p.stmts)
	p.pass("}")
	return l
}

// stmt reads a statement. It has its number before those in its blocks have theirs.
func (p *parser) stmt() api.Stmt {
	need(p.seesStmt(), api.ErrParse)
	need(p.begun < api.MaxStmts, api.ErrLong)
	at := p.begun
	p.begun++
	var s api.Stmt
	switch p.text(0) {
	case "if":
		s = p.branch()
	case "while":
		s = p.loop()
	default:
		s = p.simple()
		p.pass(";")
	}
	s.At = at
	return s
}

// seesStmt tells whether a statement can begin with the next token.
func (p *parser) seesStmt() bool {
	switch p.text(0) {
	case "*", "return", "assert", "if", "while":
		return true
	}
	return p.seesName()
}

func (p *parser) branch() api.Stmt {
	p.pass("if")
	s := api.Stmt{Kind: api.SIf, C: p.test(), Then: p.block()}
	if p.passes("else") {
		s.Else = p.block()
	}
	return s
}

func (p *parser) loop() api.Stmt {
	p.pass("while")
	return api.Stmt{Kind: api.SWhile, C: p.test(), Then: p.block()}
}

// simple reads a statement without blocks, up to its semicolon.
func (p *parser) simple() api.Stmt {
	switch {
	case p.passes("return"):
		return api.Stmt{Kind: api.SReturn, E: p.sum()}
	case p.passes("assert"):
		return api.Stmt{Kind: api.SAssert, C: p.test()}
	case p.passes("*"):
		s := api.Stmt{Kind: api.SStore, X: p.name()}
		p.pass("=")
		s.E = p.sum()
		return s
	}
	switch p.text(1) {
	case "[":
		return p.put()
	case "(":
		return p.call()
	}
	x := p.name()
	p.pass("=")
	s := p.value()
	s.X = x
	return s
}

func (p *parser) put() api.Stmt {
	s := api.Stmt{Kind: api.SPut, Y: p.name(), E: p.index()}
	p.pass("=")
	s.F = p.sum()
	return s
}

func (p *parser) call() api.Stmt {
	return api.Stmt{Kind: api.SCall, Y: p.name(), Args: list(p, p.arg)}
}

func (p *parser) arg(int) api.Arg { return api.Arg{E: p.sum()} }

// value reads what a variable becomes, as the statement that does this, without the variable.
func (p *parser) value() api.Stmt {
	switch {
	case p.passes("null"):
		return api.Stmt{Kind: api.SNull}
	case p.passes("&"):
		return api.Stmt{Kind: api.SAddr, Y: p.name()}
	case p.passes("*"):
		return api.Stmt{Kind: api.SLoad, Y: p.name()}
	case p.seesName() && p.text(1) == "[":
		return api.Stmt{Kind: api.SIndex, Y: p.name(), E: p.index()}
	case p.seesName() && p.text(1) == "(":
		return p.call()
	}
	return api.Stmt{Kind: api.SAssign, E: p.sum()}
}

// index reads a sum in brackets.
func (p *parser) index() *api.Expr {
	p.pass("[")
	e := p.sum()
	p.pass("]")
	return e
}

// test reads the condition of a statement. Its parentheses are the statement's: they nest nothing.
func (p *parser) test() *api.Cond {
	p.pass("(")
	c := p.cond()
	p.pass(")")
	return c
}
