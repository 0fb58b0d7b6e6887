package print

import "augur/api"

func (p *printer) stmts(l []api.Stmt) {
	for _, s := range l {
		p.stmt(s)
	}
}

func (p *printer) stmt(s api.Stmt) {
	switch s.Kind {
	case api.SIf:
		p.branch(s)
	case api.SWhile:
		p.loop(s)
	default:
		p.line(simple(s), ";")
	}
}

func (p *printer) branch(s api.Stmt) {
	p.begin("if (", Cond(s.C), ") {")
	p.stmts(s.Then)
	if len(s.Else) > 0 {
		p.turn("} else {")
		p.stmts(s.Else)
	}
	p.end()
}

func (p *printer) loop(s api.Stmt) {
	p.begin("while (", Cond(s.C), ") {")
	p.stmts(s.Then)
	p.end()
}

// simple returns the text of a statement without blocks, up to its semicolon.
func simple(s api.Stmt) string {
	switch s.Kind {
	case api.SAssign:
		return s.X + " = " + Expr(s.E)
	case api.SAddr:
		return s.X + " = &" + s.Y
	case api.SCopy:
		return s.X + " = " + s.Y
	case api.SNull:
		return s.X + " = null"
	case api.SLoad:
		return s.X + " = *" + s.Y
	case api.SStore:
		return "*" + s.X + " = " + Expr(s.E)
	case api.SIndex:
		return s.X + " = " + element(s)
	case api.SPut:
		return element(s) + " = " + Expr(s.F)
	case api.SCall:
		return call(s)
	case api.SReturn:
		return "return " + Expr(s.E)
	case api.SAssert:
		return "assert (" + Cond(s.C) + ")"
	}
	return ""
}

// element returns the text of the element of an array that a statement reads or changes.
func element(s api.Stmt) string { return s.Y + "[" + Expr(s.E) + "]" }

func call(s api.Stmt) string {
	text := s.Y + "(" + list(s.Args, arg) + ")"
	if s.X == "" {
		return text
	}
	return s.X + " = " + text
}

func arg(a api.Arg) string {
	if a.Ptr {
		return a.Name
	}
	return Expr(a.E)
}
