package print

import (
	"strconv"
	"strings"

	"augur/api"
)

// How strongly expressions hold together: one that holds less strongly than its place asks for stands in parentheses there.
const (
	sum = iota
	product
	unary
)

// The same of conditions.
const (
	either = iota
	both
	test
	negation
)

// terms writes expressions and conditions. It writes nothing for a part that is missing.
type terms struct{ strings.Builder }

func (t *terms) expr(e *api.Expr) {
	if e == nil {
		return
	}
	switch e.Kind {
	case api.ENum:
		t.WriteString(strconv.FormatInt(e.N, 10))
	case api.EVar:
		t.WriteString(e.Name)
	case api.EAdd:
		t.operation(e, sum, " + ", product)
	case api.ESub:
		t.operation(e, sum, " - ", product)
	case api.EMul:
		t.operation(e, product, " * ", unary)
	case api.EDiv:
		t.operation(e, product, " / ", unary)
	case api.EMod:
		t.operation(e, product, " % ", unary)
	case api.ENeg:
		t.WriteString("-")
		t.operand(e.A, unary)
	}
}

// operation writes A, a sign and B, and is told how strongly A and B must hold together.
func (t *terms) operation(e *api.Expr, left int, sign string, right int) {
	t.operand(e.A, left)
	t.WriteString(sign)
	t.operand(e.B, right)
}

func (t *terms) operand(e *api.Expr, least int) {
	t.enclosed(exprStrength(e) < least, func() { t.expr(e) })
}

func exprStrength(e *api.Expr) int {
	if e == nil {
		return unary
	}
	switch e.Kind {
	case api.EAdd, api.ESub:
		return sum
	case api.EMul, api.EDiv, api.EMod:
		return product
	}
	return unary
}

func (t *terms) cond(c *api.Cond) {
	if c == nil {
		return
	}
	switch c.Kind {
	case api.CEq:
		t.comparison(c, " == ")
	case api.CNe:
		t.comparison(c, " != ")
	case api.CLt:
		t.comparison(c, " < ")
	case api.CLe:
		t.comparison(c, " <= ")
	case api.CGt:
		t.comparison(c, " > ")
	case api.CGe:
		t.comparison(c, " >= ")
	case api.CAnd:
		t.junction(c, both, " && ", test)
	case api.COr:
		t.junction(c, either, " || ", both)
	case api.CNot:
		t.not(c.P)
	case api.CNull:
		t.nullTest(c, " == ")
	}
}

func (t *terms) comparison(c *api.Cond, sign string) {
	t.expr(c.A)
	t.WriteString(sign)
	t.expr(c.B)
}

// junction writes P, a sign and Q, and is told how strongly P and Q must hold together.
func (t *terms) junction(c *api.Cond, left int, sign string, right int) {
	t.part(c.P, left)
	t.WriteString(sign)
	t.part(c.Q, right)
}

// not writes that c does not hold. A test for null has a sign of its own for this.
func (t *terms) not(c *api.Cond) {
	if c != nil && c.Kind == api.CNull {
		t.nullTest(c, " != ")
		return
	}
	t.WriteString("!")
	t.part(c, negation)
}

func (t *terms) nullTest(c *api.Cond, sign string) {
	t.WriteString(c.Name)
	t.WriteString(sign)
	t.WriteString("null")
}

func (t *terms) part(c *api.Cond, least int) {
	t.enclosed(condStrength(c) < least, func() { t.cond(c) })
}

func condStrength(c *api.Cond) int {
	if c == nil {
		return negation
	}
	switch c.Kind {
	case api.COr:
		return either
	case api.CAnd:
		return both
	case api.CNot:
		return negation
	}
	return test
}

// enclosed writes something, in parentheses if so told.
func (t *terms) enclosed(in bool, write func()) {
	if in {
		t.WriteString("(")
	}
	write()
	if in {
		t.WriteString(")")
	}
}
