package print

import (
	"math"
	"reflect"
	"strconv"
	"strings"
	"testing"
	"unsafe"

	"augur/api"
)

func num(n int64) *api.Expr        { return &api.Expr{Kind: api.ENum, N: n} }
func variable(s string) *api.Expr  { return &api.Expr{Kind: api.EVar, Name: s} }
func neg(a *api.Expr) *api.Expr    { return &api.Expr{Kind: api.ENeg, A: a} }
func not(c *api.Cond) *api.Cond    { return &api.Cond{Kind: api.CNot, P: c} }
func null(s string) *api.Cond      { return &api.Cond{Kind: api.CNull, Name: s} }
func returns(e *api.Expr) api.Stmt { return api.Stmt{Kind: api.SReturn, E: e} }

func two(kind int, a, b *api.Expr) *api.Expr { return &api.Expr{Kind: kind, A: a, B: b} }

func compared(kind int, a, b *api.Expr) *api.Cond { return &api.Cond{Kind: kind, A: a, B: b} }

func joined(kind int, p, q *api.Cond) *api.Cond { return &api.Cond{Kind: kind, P: p, Q: q} }

// is checks a text.
func is(t *testing.T, got, want string) {
	t.Helper()
	if got != want {
		t.Errorf("%.300q, but want %.300q", got, want)
	}
}

// stmts checks that these statements, in a function, are these lines, a tab less than there.
func stmts(t *testing.T, want string, l ...api.Stmt) {
	t.Helper()
	text := "fn f() {\n"
	for line := range strings.Lines(want) {
		text += "\t" + line
	}
	is(t, Func(api.Func{Name: "f", Body: l}), text+"}\n")
}

// sign is a kind of operations, and what is written between their parts.
type sign struct {
	kind int
	text string
}

func operations() []sign {
	return []sign{{api.EAdd, " + "}, {api.ESub, " - "}, {api.EMul, " * "}, {api.EDiv, " / "}, {api.EMod, " % "}}
}

func comparisons() []sign {
	return []sign{{api.CEq, " == "}, {api.CNe, " != "}, {api.CLt, " < "}, {api.CLe, " <= "}, {api.CGt, " > "}, {api.CGe, " >= "}}
}

// P8.1: numbers, names, and what the chapter tells as an example.
func TestExpr(t *testing.T) {
	for n, s := range map[int64]string{0: "0", 7: "7", 10: "10", -1: "-1", math.MaxInt64: "9223372036854775807", math.MinInt64: "-9223372036854775808"} {
		is(t, Expr(num(n)), s)
	}
	for _, s := range []string{"", "x", "_", "a b", "a\n\tb", "\xff", "(a + b)", "null", strings.Repeat("n", 5000)} {
		is(t, Expr(variable(s)), s)
	}
	a, b, c := variable("a"), variable("b"), variable("c")
	is(t, Expr(two(api.ESub, a, two(api.ESub, b, c))), "a - (b - c)")
	is(t, Expr(two(api.ESub, two(api.ESub, a, b), c)), "a - b - c")
	is(t, Expr(two(api.EAdd, a, two(api.EMul, b, two(api.EAdd, c, num(1))))), "a + b * (c + 1)")
	is(t, Expr(two(api.EMod, two(api.EMul, two(api.EAdd, a, b), c), neg(neg(two(api.EDiv, a, neg(b)))))), "(a + b) * c % --(a / -b)")
	// A sign of a number is no operation.
	is(t, Expr(neg(num(-5))), "--5")
	is(t, Expr(two(api.ESub, num(-1), num(-2))), "-1 - -2")
	is(t, Expr(two(api.EMul, num(-1), num(-2))), "-1 * -2")
	// What a kind has no use for is not written.
	is(t, Expr(&api.Expr{Kind: api.ENum, N: 1, Name: "x", A: a, B: b}), "1")
	is(t, Expr(&api.Expr{Kind: api.EVar, N: 1, Name: "x", A: a, B: b}), "x")
	is(t, Expr(&api.Expr{Kind: api.ENeg, N: 1, Name: "x", A: a, B: b}), "-a")
	is(t, Expr(&api.Expr{Kind: api.EAdd, N: 1, Name: "x", A: a, B: b}), "a + b")
}

// P8.1: every kind of operand in every place: which are in parentheses.
func TestOperands(t *testing.T) {
	x, y := variable("x"), variable("y")
	operands := map[string]*api.Expr{"x": x, "7": num(7), "-7": num(-7), "-x": neg(x), "--x": neg(neg(x))}
	for _, o := range operations() {
		operands["x"+o.text+"y"] = two(o.kind, x, y)
	}
	enclosed := func(signs, text string) string {
		if f := strings.Fields(text); len(f) == 3 && strings.Contains(signs, f[1]) {
			return "(" + text + ")"
		}
		return text
	}
	left := []string{"", "", "+-", "+-", "+-"}
	right := []string{"+-", "+-", "+-*/%", "+-*/%", "+-*/%"}
	for text, e := range operands {
		for i, o := range operations() {
			is(t, Expr(two(o.kind, e, num(1))), enclosed(left[i], text)+o.text+"1")
			is(t, Expr(two(o.kind, num(1), e)), "1"+o.text+enclosed(right[i], text))
			is(t, Expr(two(o.kind, e, e)), enclosed(left[i], text)+o.text+enclosed(right[i], text))
		}
		is(t, Expr(neg(e)), "-"+enclosed("+-*/%", text))
		is(t, Expr(neg(neg(e))), "--"+enclosed("+-*/%", text))
		for _, o := range comparisons() {
			is(t, Cond(compared(o.kind, e, num(1))), text+o.text+"1")
			is(t, Cond(compared(o.kind, num(1), e)), "1"+o.text+text)
		}
	}
}

// P8.1: comparisons, tests for null, and what the chapter tells as an example.
func TestCond(t *testing.T) {
	a, b, c, d := variable("a"), variable("b"), variable("c"), variable("d")
	for _, o := range comparisons() {
		is(t, Cond(compared(o.kind, a, b)), "a"+o.text+"b")
	}
	is(t, Cond(compared(api.CLt, two(api.EMul, two(api.EAdd, a, b), c), d)), "(a + b) * c < d")
	is(t, Cond(compared(api.CEq, num(-1), two(api.EMul, c, two(api.EAdd, a, b)))), "-1 == c * (a + b)")
	is(t, Cond(null("p")), "p == null")
	is(t, Cond(null("")), " == null")
	is(t, Cond(not(null("a b"))), "a b != null")
	is(t, Cond(not(not(null("p")))), "!p != null")
	is(t, Cond(not(not(not(null("p"))))), "!!p != null")
	is(t, Cond(not(compared(api.CEq, a, b))), "!(a == b)")
	is(t, Cond(not(not(compared(api.CNe, a, b)))), "!!(a != b)")
	is(t, Cond(joined(api.CAnd, not(joined(api.COr, null("p"), not(null("q")))), joined(api.COr, null("r"), joined(api.CAnd, null("s"), joined(api.COr, null("t"), null("u")))))),
		"!(p == null || q != null) && (r == null || s == null && (t == null || u == null))")
	// What a kind has no use for is not written.
	p, q := null("p"), null("q")
	is(t, Cond(&api.Cond{Kind: api.CGe, A: a, B: b, P: p, Q: q, Name: "n"}), "a >= b")
	is(t, Cond(&api.Cond{Kind: api.CAnd, A: a, B: b, P: p, Q: q, Name: "n"}), "p == null && q == null")
	is(t, Cond(&api.Cond{Kind: api.CNot, A: a, B: b, P: p, Q: q, Name: "n"}), "p != null")
	is(t, Cond(&api.Cond{Kind: api.CNull, A: a, B: b, P: p, Q: q, Name: "n"}), "n == null")
}

// P8.1: every kind of part of a condition in every place: which are in parentheses.
func TestParts(t *testing.T) {
	x, y, r := variable("x"), variable("y"), null("r")
	for _, o := range comparisons() {
		s, c := "x"+o.text+"y", compared(o.kind, x, y)
		is(t, Cond(joined(api.CAnd, c, r)), s+" && r == null")
		is(t, Cond(joined(api.CAnd, r, c)), "r == null && "+s)
		is(t, Cond(joined(api.COr, c, r)), s+" || r == null")
		is(t, Cond(joined(api.COr, r, c)), "r == null || "+s)
		is(t, Cond(not(c)), "!("+s+")")
	}
	for _, p := range []struct {
		c                                    *api.Cond
		inAnd, endsAnd, inOr, endsOr, denied string
	}{
		{null("p"), "p == null", "p == null", "p == null", "p == null", "p != null"},
		{not(null("p")), "p != null", "p != null", "p != null", "p != null", "!p != null"},
		{not(not(null("p"))), "!p != null", "!p != null", "!p != null", "!p != null", "!!p != null"},
		{not(compared(api.CLt, x, y)), "!(x < y)", "!(x < y)", "!(x < y)", "!(x < y)", "!!(x < y)"},
		{joined(api.CAnd, null("p"), null("q")), "p == null && q == null", "(p == null && q == null)", "p == null && q == null", "p == null && q == null", "!(p == null && q == null)"},
		{joined(api.COr, null("p"), null("q")), "(p == null || q == null)", "(p == null || q == null)", "p == null || q == null", "(p == null || q == null)", "!(p == null || q == null)"},
	} {
		is(t, Cond(joined(api.CAnd, p.c, r)), p.inAnd+" && r == null")
		is(t, Cond(joined(api.CAnd, r, p.c)), "r == null && "+p.endsAnd)
		is(t, Cond(joined(api.COr, p.c, r)), p.inOr+" || r == null")
		is(t, Cond(joined(api.COr, r, p.c)), "r == null || "+p.endsOr)
		is(t, Cond(not(p.c)), p.denied)
	}
}

// P8.2: the first line, the locals and the last line.
func TestFunc(t *testing.T) {
	is(t, Func(api.Func{Name: "f"}), "fn f() {\n}\n")
	is(t, Func(api.Func{}), "fn () {\n}\n")
	is(t, Func(api.Func{Name: "f", Params: []api.Var{{Name: "x"}}}), "fn f(x) {\n}\n")
	is(t, Func(api.Func{Name: "f", Params: []api.Var{{Name: "p", Ptr: true}}}), "fn f(*p) {\n}\n")
	is(t, Func(api.Func{Name: "f", Params: []api.Var{{Name: "x"}, {Name: "p", Ptr: true}, {Name: "y"}}}), "fn f(x, *p, y) {\n}\n")
	is(t, Func(api.Func{Name: "f", Locals: []api.Var{{Name: "q", Ptr: true}, {Name: "x"}, {Name: "p", Ptr: true}}}), "fn f() {\n\tptr q;\n\tvar x;\n\tptr p;\n}\n")
	is(t, Func(api.Func{Name: "f", Params: []api.Var{{Name: "x"}, {Name: "p", Ptr: true}}, Locals: []api.Var{{Name: "y"}}, Body: []api.Stmt{returns(variable("y"))}}),
		"fn f(x, *p) {\n\tvar y;\n\treturn y;\n}\n")
	is(t, Func(api.Func{Name: "f", Params: []api.Var{{Name: "x"}, {Name: "p", Ptr: true}}, Body: []api.Stmt{
		{Kind: api.SCopy, X: "p", Y: "q"},
		{Kind: api.SCall, Y: "g", Args: []api.Arg{{Ptr: true, Name: "q"}, {E: num(5)}}},
	}}), "fn f(x, *p) {\n\tp = q;\n\tg(q, 5);\n}\n")
}

// P8.2: every kind of statement without blocks.
func TestSimple(t *testing.T) {
	e, f := two(api.EAdd, variable("a"), num(1)), neg(variable("b"))
	c := joined(api.COr, compared(api.CEq, e, f), null("p"))
	for kind, s := range map[int]string{
		api.SAssign: "x = a + 1;\n",
		api.SAddr:   "x = &y;\n",
		api.SCopy:   "x = y;\n",
		api.SNull:   "x = null;\n",
		api.SLoad:   "x = *y;\n",
		api.SStore:  "*x = a + 1;\n",
		api.SIndex:  "x = y[a + 1];\n",
		api.SPut:    "y[a + 1] = -b;\n",
		api.SCall:   "x = y(q, a + 1);\n",
		api.SReturn: "return a + 1;\n",
		api.SAssert: "assert (a + 1 == -b || p == null);\n",
	} {
		// What a kind has no use for is not written.
		inner := []api.Stmt{{Kind: api.SNull, X: "z"}}
		stmts(t, s, api.Stmt{Kind: kind, X: "x", Y: "y", E: e, F: f, C: c, Args: []api.Arg{{Ptr: true, Name: "q", E: f}, {Name: "n", E: e}}, Then: inner, Else: inner, At: 17})
	}
	stmts(t, "y();\n", api.Stmt{Kind: api.SCall, Y: "y"})
	stmts(t, "x = y();\n", api.Stmt{Kind: api.SCall, X: "x", Y: "y"})
	stmts(t, "y(p);\n", api.Stmt{Kind: api.SCall, Y: "y", Args: []api.Arg{{Ptr: true, Name: "p"}}})
	stmts(t, "x = y(a + 1, -b, p, q, 0);\n", api.Stmt{Kind: api.SCall, X: "x", Y: "y", Args: []api.Arg{{E: e}, {E: f}, {Ptr: true, Name: "p"}, {Ptr: true, Name: "q"}, {E: num(0)}}})
	// The parentheses of a condition stand within those of the statement.
	stmts(t, "assert (!(a + 1 == -b || p == null));\n", api.Stmt{Kind: api.SAssert, C: not(c)})
}

// P8.2: blocks, and the tabs of what they enclose.
func TestBlocks(t *testing.T) {
	c, d := compared(api.CEq, variable("x"), num(1)), not(null("p"))
	one, other := api.Stmt{Kind: api.SNull, X: "p", At: 1}, api.Stmt{Kind: api.SCopy, X: "p", Y: "q", At: 2}
	list := func(l ...api.Stmt) []api.Stmt { return l }
	stmts(t, "if (x == 1) {\n}\n", api.Stmt{Kind: api.SIf, C: c})
	stmts(t, "if (x == 1) {\n}\n", api.Stmt{Kind: api.SIf, C: c, Else: []api.Stmt{}})
	stmts(t, "if (x == 1) {\n\tp = null;\n}\n", api.Stmt{Kind: api.SIf, C: c, Then: list(one)})
	stmts(t, "if (p != null) {\n} else {\n\tp = q;\n}\n", api.Stmt{Kind: api.SIf, C: d, Else: list(other)})
	stmts(t, "if (p != null) {\n\tp = null;\n\tp = q;\n} else {\n\tp = q;\n\tp = null;\n}\n", api.Stmt{Kind: api.SIf, C: d, Then: list(one, other), Else: list(other, one)})
	stmts(t, "while (x == 1) {\n}\n", api.Stmt{Kind: api.SWhile, C: c})
	stmts(t, "while (x == 1) {\n\tp = null;\n\tp = q;\n}\np = null;\n", api.Stmt{Kind: api.SWhile, C: c, Then: list(one, other), Else: list(one)}, one)
	inner := api.Stmt{Kind: api.SIf, C: c, Then: list(one), Else: list(api.Stmt{Kind: api.SWhile, C: c, Then: list(other)}, one)}
	loop := api.Stmt{Kind: api.SWhile, C: d, Then: list(inner, other)}
	stmts(t, "p = null;\nwhile (p != null) {\n\tif (x == 1) {\n\t\tp = null;\n\t} else {\n\t\twhile (x == 1) {\n\t\t\tp = q;\n\t\t}\n\t\tp = null;\n\t}\n\tp = q;\n}\np = q;\n", one, loop, other)
	// The condition of a statement is in the statement's parentheses, and in its own if it has some.
	stmts(t, "while (!(x == 1)) {\n}\n", api.Stmt{Kind: api.SWhile, C: not(c)})
	stmts(t, "if ((x == 1 || p != null) && x == 1) {\n}\n", api.Stmt{Kind: api.SIf, C: joined(api.CAnd, joined(api.COr, c, d), c)})
}

// P8.2: names are written as they are, whatever they hold: they make no lines and no tabs.
func TestNames(t *testing.T) {
	n := "\n\t}\xff ("
	v := []api.Var{{Name: n}, {Name: n, Ptr: true}}
	inner := []api.Stmt{{Kind: api.SCopy, X: n, Y: n}}
	is(t, Func(api.Func{Name: n, Params: v, Locals: v, Body: []api.Stmt{{Kind: api.SWhile, C: null(n), Then: inner}}}),
		"fn "+n+"("+n+", *"+n+") {\n\tvar "+n+";\n\tptr "+n+";\n\twhile ("+n+" == null) {\n\t\t"+n+" = "+n+";\n\t}\n}\n")
	is(t, Globals(api.Globals{Cells: []string{n}, Arrays: []api.Array{{Name: n, Len: 1}}}), "cell "+n+";\narray "+n+"[1];\n")
	// Nor is asked whether they are names, or occur twice.
	is(t, Func(api.Func{Name: "if", Params: []api.Var{{Name: "if"}, {Name: "if"}}}), "fn if(if, if) {\n}\n")
}

// P8.2: the lines of cells and arrays.
func TestGlobals(t *testing.T) {
	is(t, Globals(api.Globals{}), "")
	is(t, Globals(api.Globals{Cells: []string{}, Arrays: []api.Array{}}), "")
	is(t, Globals(api.Globals{Cells: []string{"c"}}), "cell c;\n")
	is(t, Globals(api.Globals{Arrays: []api.Array{{Name: "a", Len: 10}}}), "array a[10];\n")
	is(t, Globals(api.Globals{Cells: []string{"z", "a", "z"}, Arrays: []api.Array{{Name: "t", Len: 1}, {Name: "b", Len: 1048576}}}), "cell z;\ncell a;\ncell z;\narray t[1];\narray b[1048576];\n")
	is(t, Globals(api.Globals{Cells: []string{""}, Arrays: []api.Array{{}, {Len: -1}, {Len: math.MaxInt}, {Len: math.MinInt}}}), "cell ;\narray [0];\narray [-1];\narray [9223372036854775807];\narray [-9223372036854775808];\n")
	many := api.Globals{}
	want := ""
	for i := range 100 {
		many.Cells = append(many.Cells, "c"+strconv.Itoa(i))
		want += "cell c" + strconv.Itoa(i) + ";\n"
	}
	is(t, Globals(many), want)
}

// P8.1, P8.2: beyond the limits of what is parsed, all is written.
func TestLarge(t *testing.T) {
	const n = 4000
	a, s := variable("a"), strings.Repeat
	left, right, signs, e := a, a, a, a
	for range n {
		left, right, signs, e = two(api.ESub, left, a), two(api.ESub, a, right), neg(signs), two(api.EMul, two(api.EAdd, e, a), a)
	}
	is(t, Expr(left), "a"+s(" - a", n))
	is(t, Expr(right), s("a - (", n-1)+"a - a"+s(")", n-1))
	is(t, Expr(signs), s("-", n)+"a")
	is(t, Expr(e), s("(", n)+"a"+s(" + a) * a", n))
	p := null("p")
	ands, nots, ors := p, compared(api.CEq, a, a), p
	for range n {
		ands, nots, ors = joined(api.CAnd, ands, p), not(nots), joined(api.COr, p, ors)
	}
	is(t, Cond(ands), "p == null"+s(" && p == null", n))
	is(t, Cond(ors), s("p == null || (", n-1)+"p == null || p == null"+s(")", n-1))
	is(t, Cond(nots), s("!", n)+"(a == a)")
	var l []api.Stmt
	begin, end := "", ""
	for i := range 1000 {
		l = []api.Stmt{{Kind: api.SWhile, C: p, Then: l}}
		begin, end = begin+s("\t", i)+"while (p == null) {\n", s("\t", i)+"}\n"+end
	}
	stmts(t, begin+end, l...)
	var args []api.Arg
	var params, locals []api.Var
	var body []api.Stmt
	for range n {
		args, params, locals, body = append(args, api.Arg{E: a}), append(params, api.Var{Name: "x"}), append(locals, api.Var{Name: "y"}), append(body, returns(a))
	}
	is(t, Func(api.Func{Name: "f", Params: params, Locals: locals, Body: append(body, api.Stmt{Kind: api.SCall, Y: "g", Args: args})}),
		"fn f(x"+s(", x", n-1)+") {\n"+s("\tvar y;\n", n)+s("\treturn a;\n", n)+"\tg(a"+s(", a", n-1)+");\n}\n")
	// A part that is shared is written at each of its places.
	e = a
	for range 18 {
		e = two(api.EAdd, e, neg(e))
	}
	if got := Expr(e); strings.Count(got, "a") != 1<<18 || strings.Count(got, "(") != 1<<17-1 {
		t.Errorf("%d bytes", len(got))
	}
}

// P8.1, P8.2: kinds that there are not, and parts that are missing: every call ends, in every place.
func TestWrong(t *testing.T) {
	exprs := []*api.Expr{nil, {Kind: -1}, {Kind: 8, A: num(1), B: num(2)}, {Kind: math.MaxInt}, {Kind: math.MinInt, A: num(1)}}
	for kind := range 10 {
		exprs = append(exprs, &api.Expr{Kind: kind})
	}
	for _, e := range exprs[:15:15] {
		for kind := range 10 {
			exprs = append(exprs, two(kind, e, nil), two(kind, nil, e), two(kind, e, e))
		}
	}
	conds := []*api.Cond{nil, {Kind: -1}, {Kind: 10, P: null("p")}, {Kind: math.MaxInt}, {Kind: math.MinInt, P: null("p"), Q: null("q")}}
	for kind := range 12 {
		conds = append(conds, &api.Cond{Kind: kind})
	}
	for _, c := range conds[:17:17] {
		for kind := range 12 {
			conds = append(conds, joined(kind, c, nil), joined(kind, nil, c), joined(kind, c, c))
		}
	}
	for _, e := range exprs {
		Expr(e)
		for kind := range 12 {
			conds = append(conds, compared(kind, e, nil), compared(kind, nil, e))
		}
	}
	for _, c := range conds {
		Cond(c)
	}
	for _, kind := range []int{-1, 0, 1, 2, 3, 4, 5, 6, 7, 8, 9, 10, 11, 12, 13, math.MaxInt, math.MinInt} {
		for _, e := range exprs {
			s := api.Stmt{Kind: kind, E: e, Args: []api.Arg{{}, {E: e}, {Ptr: true}}}
			Func(api.Func{Body: []api.Stmt{s, {Kind: kind, F: e, Then: []api.Stmt{s, s}, Else: []api.Stmt{s}}, {}}})
		}
		for _, c := range conds {
			Func(api.Func{Body: []api.Stmt{{Kind: kind, C: c}}})
		}
	}
}

// full is a function with a part of every kind, made anew with each call.
func full() api.Func {
	e := two(api.EAdd, variable("a"), two(api.EMul, num(2), neg(two(api.EDiv, variable("b"), num(3)))))
	c := joined(api.CAnd, not(null("p")), joined(api.COr, compared(api.CLt, e, num(4)), null("q")))
	simple := make([]api.Stmt, 0, 20)
	for kind := range api.SAssert + 1 {
		simple = append(simple, api.Stmt{Kind: kind, X: "x", Y: "y", E: e, F: e, C: c, Args: []api.Arg{{Ptr: true, Name: "p"}, {E: e}}})
	}
	body := append(make([]api.Stmt, 0, 20), api.Stmt{Kind: api.SIf, C: c, Then: simple, Else: simple}, api.Stmt{Kind: api.SWhile, C: c, Then: simple})
	return api.Func{Name: "f", Params: append(make([]api.Var, 0, 9), api.Var{Name: "x"}), Locals: append(make([]api.Var, 0, 9), api.Var{Name: "y", Ptr: true}), Body: body}
}

// What holds everywhere: arguments stay as they are, with their spare capacity, and the same ones have the same text.
func TestArguments(t *testing.T) {
	f := full()
	text := Func(f)
	is(t, Func(f), text)
	is(t, Func(full()), text)
	if !reflect.DeepEqual(f, full()) || !reflect.DeepEqual(f.Body[:20], full().Body[:20]) || !reflect.DeepEqual(f.Params[:9], full().Params[:9]) || !reflect.DeepEqual(f.Locals[:9], full().Locals[:9]) {
		t.Error("changed")
	}
	if then := f.Body[0].Then; !reflect.DeepEqual(then[:20], full().Body[0].Then[:20]) {
		t.Error("changed")
	}
	g := func() api.Globals {
		return api.Globals{Cells: append(make([]string, 0, 5), "c"), Arrays: append(make([]api.Array, 0, 5), api.Array{Name: "a", Len: 3})}
	}
	h := g()
	is(t, Globals(h), Globals(g()))
	if !reflect.DeepEqual(h.Cells[:5], g().Cells[:5]) || !reflect.DeepEqual(h.Arrays[:5], g().Arrays[:5]) {
		t.Error("changed")
	}
	// A text is new memory, also where it is but a name.
	name := strings.Clone("name")
	if unsafe.StringData(Expr(variable(name))) == unsafe.StringData(name) {
		t.Error("shared")
	}
}
