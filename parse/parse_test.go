package parse

import (
	"reflect"
	"slices"
	"strconv"
	"strings"
	"testing"
	"unsafe"

	"augur/api"
)

// same checks that s is the function f.
func same(t *testing.T, s string, f api.Func) {
	t.Helper()
	got, at, err := Func(s)
	if err != api.OK || at != 0 || !reflect.DeepEqual(got, f) {
		t.Errorf("%.200q: %d, %v, %+v, but want %+v", s, at, err, got, f)
	}
}

// body checks that s is the body of a function, and returns its statements.
func body(t *testing.T, s string) []api.Stmt {
	t.Helper()
	f, at, err := Func("fn f() {" + s + "}")
	if err != api.OK || at != 0 {
		t.Fatalf("%.200q: %d, %v", s, at, err)
	}
	return f.Body
}

// stmt checks that s is this statement.
func stmt(t *testing.T, s string, want api.Stmt) {
	t.Helper()
	if l := body(t, s); !reflect.DeepEqual(l, []api.Stmt{want}) {
		t.Errorf("%q: %+v", s, l)
	}
}

// fails checks that s is no function, and nothing is returned beside its error and place.
func fails(t *testing.T, s string, at int, err api.Errno) {
	t.Helper()
	f, a, e := Func(s)
	if a != at || e != err || !reflect.DeepEqual(f, api.Func{}) {
		t.Errorf("%.200q: %d, %v, %+v, but want %d, %v", s, a, e, f, at, err)
	}
}

// failsGlobals does so for globals.
func failsGlobals(t *testing.T, s string, at int, err api.Errno) {
	t.Helper()
	g, a, e := Globals(s)
	if a != at || e != err || !reflect.DeepEqual(g, api.Globals{}) {
		t.Errorf("%.200q: %d, %v, %+v, but want %d, %v", s, a, e, g, at, err)
	}
}

// wrongIn checks that, in the body s, the first token that does not fit is the one behind @.
func wrongIn(t *testing.T, s string) {
	t.Helper()
	s = "fn f() {" + s + "}"
	fails(t, strings.Replace(s, "@", "", 1), strings.Index(s, "@"), api.ErrParse)
}

func num(n int64) *api.Expr        { return &api.Expr{Kind: api.ENum, N: n} }
func variable(s string) *api.Expr  { return &api.Expr{Kind: api.EVar, Name: s} }
func neg(a *api.Expr) *api.Expr    { return &api.Expr{Kind: api.ENeg, A: a} }
func not(c *api.Cond) *api.Cond    { return &api.Cond{Kind: api.CNot, P: c} }
func null(s string) *api.Cond      { return &api.Cond{Kind: api.CNull, Name: s} }
func is(kind int) *api.Cond        { return &api.Cond{Kind: kind, A: variable("x"), B: num(1)} }
func assert(c *api.Cond) api.Stmt  { return api.Stmt{Kind: api.SAssert, C: c} }
func returns(e *api.Expr) api.Stmt { return api.Stmt{Kind: api.SReturn, E: e} }

func two(kind int, a, b *api.Expr) *api.Expr { return &api.Expr{Kind: kind, A: a, B: b} }
func both(kind int, p, q *api.Cond) *api.Cond {
	return &api.Cond{Kind: kind, P: p, Q: q}
}

// P7.1: the parts of a function.
func TestFunc(t *testing.T) {
	same(t, "fn f(){}", api.Func{Name: "f"})
	same(t, "fn f(x) { return x + 1; }", api.Func{Name: "f", Params: []api.Var{{Name: "x"}}, Body: []api.Stmt{returns(two(api.EAdd, variable("x"), num(1)))}})
	same(t, "# f\nfn\tf ( * p,q ,*r ) { ptr a; var b; ptr c; # none\n}#", api.Func{
		Name:   "f",
		Params: []api.Var{{Name: "p", Ptr: true}, {Name: "q"}, {Name: "r", Ptr: true}},
		Locals: []api.Var{{Name: "a", Ptr: true}, {Name: "b"}, {Name: "c", Ptr: true}},
	})
	// Whether names occur twice is not asked here.
	same(t, "fn f(f,f){var f;var f;}", api.Func{Name: "f", Params: []api.Var{{Name: "f"}, {Name: "f"}}, Locals: []api.Var{{Name: "f"}, {Name: "f"}}})
}

// P7.1: every kind of statement that a text can have.
func TestStmts(t *testing.T) {
	x, y, one, two := variable("x"), variable("y"), num(1), num(2)
	stmt(t, "x = 1;", api.Stmt{Kind: api.SAssign, X: "x", E: one})
	stmt(t, "x = y;", api.Stmt{Kind: api.SAssign, X: "x", E: y})
	stmt(t, "x = -1;", api.Stmt{Kind: api.SAssign, X: "x", E: neg(one)})
	stmt(t, "x = (y);", api.Stmt{Kind: api.SAssign, X: "x", E: y})
	stmt(t, "x = &y;", api.Stmt{Kind: api.SAddr, X: "x", Y: "y"})
	stmt(t, "x = null;", api.Stmt{Kind: api.SNull, X: "x"})
	stmt(t, "x = *y;", api.Stmt{Kind: api.SLoad, X: "x", Y: "y"})
	stmt(t, "*x = y;", api.Stmt{Kind: api.SStore, X: "x", E: y})
	stmt(t, "x = y[1];", api.Stmt{Kind: api.SIndex, X: "x", Y: "y", E: one})
	stmt(t, "y[1] = 2;", api.Stmt{Kind: api.SPut, Y: "y", E: one, F: two})
	stmt(t, "x = g();", api.Stmt{Kind: api.SCall, X: "x", Y: "g"})
	stmt(t, "g();", api.Stmt{Kind: api.SCall, Y: "g"})
	stmt(t, "g(x, 1, -2);", api.Stmt{Kind: api.SCall, Y: "g", Args: []api.Arg{{E: x}, {E: one}, {E: neg(two)}}})
	stmt(t, "x = x(x);", api.Stmt{Kind: api.SCall, X: "x", Y: "x", Args: []api.Arg{{E: x}}})
	stmt(t, "return x;", returns(x))
	stmt(t, "assert(x == 1);", assert(is(api.CEq)))
	stmt(t, "if (x == 1) {}", api.Stmt{Kind: api.SIf, C: is(api.CEq)})
	stmt(t, "if (x == 1) {} else {}", api.Stmt{Kind: api.SIf, C: is(api.CEq)})
	stmt(t, "while (x == 1) {}", api.Stmt{Kind: api.SWhile, C: is(api.CEq)})
	x1 := api.Stmt{Kind: api.SAssign, X: "x", E: one, At: 1}
	stmt(t, "if (x == 1) { x = 1; }", api.Stmt{Kind: api.SIf, C: is(api.CEq), Then: []api.Stmt{x1}})
	stmt(t, "if (x == 1) {} else { x = 1; }", api.Stmt{Kind: api.SIf, C: is(api.CEq), Else: []api.Stmt{x1}})
	stmt(t, "while (x == 1) { x = 1; }", api.Stmt{Kind: api.SWhile, C: is(api.CEq), Then: []api.Stmt{x1}})
	var many []api.Arg
	for range 1000 {
		many = append(many, api.Arg{E: x})
	}
	stmt(t, "g(x"+strings.Repeat(",x", 999)+");", api.Stmt{Kind: api.SCall, Y: "g", Args: many})
}

// P7.1: statements are numbered in the order in which they begin.
func TestNumbers(t *testing.T) {
	l := body(t, "a(); if (x == 1) { b(); while (x == 1) { c(); } d(); } else { e(); } g();")
	var at []int
	var walk func([]api.Stmt)
	walk = func(l []api.Stmt) {
		for _, s := range l {
			at = append(at, s.At)
			walk(s.Then)
			walk(s.Else)
		}
	}
	walk(l)
	if !slices.Equal(at, []int{0, 1, 2, 3, 4, 5, 6, 7}) {
		t.Error(at)
	}
	for i, s := range body(t, strings.Repeat("x=1;", 200)) {
		if s.At != i {
			t.Errorf("%d has %d", i, s.At)
		}
	}
}

// P7.1: numbers, names, signs, parentheses, and how operators group.
func TestExprs(t *testing.T) {
	a, b, c := variable("a"), variable("b"), variable("c")
	for _, x := range []struct {
		s string
		e *api.Expr
	}{
		{"0", num(0)}, {"9223372036854775807", num(9223372036854775807)}, {"-9223372036854775807", neg(num(9223372036854775807))}, {"_", variable("_")}, {"Fn", variable("Fn")}, {"null_", variable("null_")}, {strings.Repeat("a", 32), variable(strings.Repeat("a", 32))},
		{"- - a", neg(neg(a))}, {"((a))", a}, {"-(a)", neg(a)}, {"(-a)", neg(a)},
		{"a+b", two(api.EAdd, a, b)}, {"a-b", two(api.ESub, a, b)}, {"a*b", two(api.EMul, a, b)}, {"a/b", two(api.EDiv, a, b)}, {"a%b", two(api.EMod, a, b)},
		{"a-b-c", two(api.ESub, two(api.ESub, a, b), c)}, {"a-(b-c)", two(api.ESub, a, two(api.ESub, b, c))}, {"a-b+c", two(api.EAdd, two(api.ESub, a, b), c)}, {"a+b-c", two(api.ESub, two(api.EAdd, a, b), c)},
		{"a/b/c", two(api.EDiv, two(api.EDiv, a, b), c)}, {"a/b*c", two(api.EMul, two(api.EDiv, a, b), c)}, {"a*b%c", two(api.EMod, two(api.EMul, a, b), c)}, {"a%(b*c)", two(api.EMod, a, two(api.EMul, b, c))},
		{"a+b*c", two(api.EAdd, a, two(api.EMul, b, c))}, {"a*b+c", two(api.EAdd, two(api.EMul, a, b), c)}, {"(a+b)*c", two(api.EMul, two(api.EAdd, a, b), c)}, {"a-b%c", two(api.ESub, a, two(api.EMod, b, c))},
		{"-a*b", two(api.EMul, neg(a), b)}, {"-a+b", two(api.EAdd, neg(a), b)}, {"a--b", two(api.ESub, a, neg(b))}, {"a*-b", two(api.EMul, a, neg(b))}, {"-(a*b)", neg(two(api.EMul, a, b))},
	} {
		stmt(t, "return "+x.s+";", returns(x.e))
		stmt(t, "*p = "+x.s+";", api.Stmt{Kind: api.SStore, X: "p", E: x.e})
		stmt(t, "x = "+x.s+";", api.Stmt{Kind: api.SAssign, X: "x", E: x.e})
		stmt(t, "x = t["+x.s+"];", api.Stmt{Kind: api.SIndex, X: "x", Y: "t", E: x.e})
		stmt(t, "t["+x.s+"] = "+x.s+";", api.Stmt{Kind: api.SPut, Y: "t", E: x.e, F: x.e})
		stmt(t, "g("+x.s+");", api.Stmt{Kind: api.SCall, Y: "g", Args: []api.Arg{{E: x.e}}})
		stmt(t, "assert(0 <"+x.s+");", assert(&api.Cond{Kind: api.CLt, A: num(0), B: x.e}))
		stmt(t, "assert(0 +"+x.s+"== 0);", assert(&api.Cond{Kind: api.CEq, A: body(t, "return 0+"+x.s+";")[0].E, B: num(0)}))
	}
}

// P7.1: comparisons, tests for null, and how conditions group.
func TestConds(t *testing.T) {
	p, q, r := null("p"), null("q"), null("r")
	for _, x := range []struct {
		s string
		c *api.Cond
	}{
		{"x == 1", is(api.CEq)}, {"x != 1", is(api.CNe)}, {"x < 1", is(api.CLt)}, {"x <= 1", is(api.CLe)}, {"x > 1", is(api.CGt)}, {"x >= 1", is(api.CGe)},
		{"x == null_", &api.Cond{Kind: api.CEq, A: variable("x"), B: variable("null_")}}, {"x == (1)", is(api.CEq)}, {"-x == 1", &api.Cond{Kind: api.CEq, A: neg(variable("x")), B: num(1)}}, {"-(x) != 1", &api.Cond{Kind: api.CNe, A: neg(variable("x")), B: num(1)}},
		{"p == null", p}, {"p != null", not(p)}, {"!p == null", not(p)}, {"!p != null", not(not(p))}, {"!!p == null", not(not(p))}, {"(p == null)", p}, {"((p != null))", not(p)}, {"!(p == null)", not(p)}, {"!x == 1", not(is(api.CEq))},
		{"p == null && q == null && r == null", both(api.CAnd, both(api.CAnd, p, q), r)}, {"p == null && (q == null && r == null)", both(api.CAnd, p, both(api.CAnd, q, r))},
		{"p == null || q == null || r == null", both(api.COr, both(api.COr, p, q), r)}, {"p == null || (q == null || r == null)", both(api.COr, p, both(api.COr, q, r))},
		{"p == null || q == null && r == null", both(api.COr, p, both(api.CAnd, q, r))}, {"p == null && q == null || r == null", both(api.COr, both(api.CAnd, p, q), r)}, {"(p == null || q == null) && r == null", both(api.CAnd, both(api.COr, p, q), r)},
		{"!p == null && q == null", both(api.CAnd, not(p), q)}, {"!(p == null && q == null)", not(both(api.CAnd, p, q))},
		{"x == 1 && p == null", both(api.CAnd, is(api.CEq), p)}, {"p != null || x < 1", both(api.COr, not(p), is(api.CLt))},
	} {
		stmt(t, "assert("+x.s+");", assert(x.c))
		stmt(t, "if ("+x.s+") {}", api.Stmt{Kind: api.SIf, C: x.c})
		stmt(t, "while ("+x.s+") {}", api.Stmt{Kind: api.SWhile, C: x.c})
	}
}

// P7.1: keywords are no names; what only resembles them is.
func TestKeywords(t *testing.T) {
	places := strings.Split("fn @(){}|fn f(@){}|fn f(*@){}|fn f(a,*@){}|fn f(){var @;}|fn f(){ptr @;}|fn f(){*@ = 1;}|fn f(){x = &@;}|fn f(){x = *@;}|fn f(){x = 1 + @;}|fn f(){x = -@;}|fn f(){x = (@);}|fn f(){x = t[@];}|fn f(){x = 1 * @;}|fn f(){g(@);}|fn f(){g(1, @);}|fn f(){t[@] = 1;}|fn f(){t[1] = @;}|fn f(){*p = @;}|fn f(){return @;}|fn f(){assert(@ == 1);}|fn f(){assert(@ == null);}|fn f(){assert(1 == @);}|fn f(){if (!@ != null) {}}|fn f(){while (1 < 2 && @ > 1) {}}", "|")
	for _, p := range places {
		for _, k := range strings.Fields(keywords) {
			fails(t, strings.Replace(p, "@", k, 1), strings.Index(p, "@"), api.ErrParse)
			for _, n := range []string{k + "_", strings.ToUpper(k), k + "1", k[:len(k)-1] + "X"} {
				if _, at, err := Func(strings.Replace(p, "@", n, 1)); err != api.OK {
					t.Errorf("%q in %q: %d, %v", n, p, at, err)
				}
			}
		}
	}
	for _, k := range strings.Fields(keywords) {
		failsGlobals(t, "cell "+k+";", 5, api.ErrParse)
		failsGlobals(t, "array "+k+"[1];", 6, api.ErrParse)
	}
	for _, k := range strings.Fields("fn var ptr else null cell array") {
		wrongIn(t, "x = 1; @"+k+" = 1;")
		wrongIn(t, "x = 1; @"+k+"(1);")
		wrongIn(t, "x = 1; @"+k+"[1] = 1;")
	}
}

// P7.2: the first token that does not fit, or the end of the text.
func TestParseErrors(t *testing.T) {
	fails(t, "", 0, api.ErrParse)
	fails(t, "# only a remark", 15, api.ErrParse)
	fails(t, "fn f # and a remark", 19, api.ErrParse)
	fails(t, "f() {}", 0, api.ErrParse)
	fails(t, "fn f(x,) {}", 7, api.ErrParse)
	fails(t, "fn f(*) {}", 6, api.ErrParse)
	fails(t, "fn f(1) {}", 5, api.ErrParse)
	fails(t, "fn f(x {}", 7, api.ErrParse)
	fails(t, "fn f x) {}", 5, api.ErrParse)
	fails(t, "fn f() }", 7, api.ErrParse)
	fails(t, "fn f() {} fn g() {}", 10, api.ErrParse)
	fails(t, "fn f() {} ;", 10, api.ErrParse)
	for _, l := range []string{
		"@; | x @; | x @1; | @1 x; | x @== 1; | @(x) = 1; | @&x = 1; | @- x; | @{ } | @= 1; | @null = 1; | x @y = 1; | x = 1; @1; | x = 1; @; | @fn g() {} | @cell x; | @array x[1]; | @else {}",
		"var @; | var @1; | var x@, y; | var x @= 1; | var @*x; | ptr @*x; | ptr x @} | x = 1; @var y; | x = 1; @ptr y; | if (x == 1) { @var y; } | while (x == 1) { @ptr y; }",
		"x = @; | x = 1 @} | x = 1 @1; | x = y @y; | x = (y@; | x = (@); | x = y @z(1); | x = y + z@(1); | x = y + z@[1]; | x = 1@[1]; | x = 1@(1); | x = (y@(1)); | x = -y@[1]; | x = @!y; | x = y @== z; | x = y @&& z; | x = @if; | x = @+y; | x = y + @+y;",
		"x = null @+ 1; | x = null@(1); | x = -@null; | x = &y @+ 1; | x = &y@[1]; | x = & @&y; | x = &@1; | x = &@(y); | x = @&&y; | x = *y @* z; | x = *y@[1]; | x = *@*y; | x = *@1; | x = *@(y); | x = *@-y;",
		"x = y[@]; | x = y[1@; | x = y[1@, 2]; | x = y[1] @+ 1; | x = y[1]@[2]; | x = y[1] @= 2; | x = y[z@[1]]; | x = y[@&z]; | x = y() @+ 1; | x = y()@(); | x = y(@,); | x = y(1, @); | x = y(1 @2); | x = y(z@()); | x = y(@*z); | x = y(@null); | x = y(1@; | x = @if(1); | x = @return[1];",
		"*x @; | *@1 = 1; | *@*x = 1; | *@(x) = 1; | *x @+ 1 = 2; | *x@[1] = 2; | *x = @null; | *x = @&y; | *x = @*y; | *x = y@(1); | *x = y@[1];",
		"x[@] = 1; | x[1@; | x[1] @; | x[1] @== 2; | x[1] = @null; | x[1] = @*y; | x[1] = y@[2]; | x[1]@[2] = 3;",
		"x(@, 1); | x(1) @= 2; | x(1) @+ 2; | x(1)@[2]; | x(1) @} | x(1, @);",
		"return @; | return @null; | return @&x; | return @*x; | return x@(1); | return x @== 1; | return 1 @} | return (@);",
		"assert @x == 1; | assert (@); | assert (x@); | assert ((x@)); | assert ((x + 1@) == 2); | assert ((x@) == 1); | assert (x @= 1); | assert (x == @); | assert (x == 1 @== 1); | assert (x == 1) @} | assert (x == 1 @; | assert (x @, y); | assert (x == 1 @< 2); | assert (x@(1) == 1); | assert (x@[1] == 1); | assert (x == y@(1)); | assert (x == y@[1]); | assert (@*x == 1); | assert (x == @*y); | assert (@&x == y); | assert (x == @!y);",
		"assert (x == null @+ 1); | assert (x == null @== 1); | assert (x < @null); | assert (1 == @null); | assert (-x == @null); | assert (x + y == @null); | assert (x + @null == 1); | assert (x * @null != 1); | assert (x@, null); | assert (@null == x); | assert (x == (@null)); | assert ((x@) == null); | assert (x == -@null);",
		"assert (x == 1 && @); | assert (x == 1 && y@); | assert (x == 1 || @|| y == 1); | assert (!@); | assert (! x@); | assert (!(x@)); | assert (x == 1 @! y == 1); | assert (@&& x == 1); | assert ((x == 1) @== 1); | assert ((x == 1) @+ 1 == 1); | assert ((x == 1 && y@));",
		"if @x == 1 {} | if (@) {} | if (x == 1 @{} | if (x == 1) @x = 1; | if (x == 1) @; | if (x == 1) {} else @if (x == 1) {} | if (x == 1) {} else @x = 1; | if (x == 1) {}@; | if (x == 1) {} else {} @else {}",
		"while @{} | while (@) {} | while (x == 1) @; | while (x == 1) {} @else {} | while (x == 1) {}@;",
	} {
		for _, s := range strings.Split(l, " | ") {
			wrongIn(t, s)
		}
	}
}

// P7.2: every text that is cut off ends too early, at its length.
func TestEarlyEnd(t *testing.T) {
	m := &maker{numbers: numbers{5}, most: 300, few: 3, nested: 2}
	m.function(2, 2)
	for n := range len(m.words) {
		s, at := m.write(m.words[:n], []string{" "})
		fails(t, s, at[n], api.ErrParse)
		fails(t, s+" \n# end", at[n]+7, api.ErrParse)
	}
}

// P7.2: the errors of tokens come first, with their places.
func TestLexErrors(t *testing.T) {
	fails(t, "$", 0, api.ErrLex)
	fails(t, "fn f() {} 0x", 10, api.ErrLex)
	fails(t, "1 2 3 |", 6, api.ErrLex)
	fails(t, "fn fn 9223372036854775808", 6, api.ErrLong)
	fails(t, "fn f() { x = 9223372036854775808; }", 13, api.ErrLong)
	fails(t, "fn "+strings.Repeat("f", 33)+"() {}", 3, api.ErrLong)
	fails(t, "fn f() {}"+strings.Repeat(" ", 4088), 0, api.ErrLong)
	same(t, "fn f() {}"+strings.Repeat(" ", 4087), api.Func{Name: "f"})
	fails(t, "fn f() {"+strings.Repeat("-", 100)+"} 01", 110, api.ErrLex)
	failsGlobals(t, "$", 0, api.ErrLex)
	failsGlobals(t, "; cell a.", 8, api.ErrLex)
	failsGlobals(t, "cell "+strings.Repeat("a", 33)+";", 5, api.ErrLong)
	failsGlobals(t, "array a[9223372036854775808];", 8, api.ErrLong)
	failsGlobals(t, strings.Repeat(" ", 4097), 0, api.ErrLong)
}

// P7.2: so many parts may be open within one another, of whatever kinds; others don't count.
func TestDeep(t *testing.T) {
	for _, x := range []struct{ head, open, middle, close, tail string }{
		{"x = ", "(", "1", ")", ";"}, {"x = ", "-", "1", "", ";"}, {"x = y[", "(", "1", ")", "];"}, {"y[", "-", "1", "", "] = 2;"}, {"y[1] = ", "(", "1", ")", ";"}, {"*p = ", "-", "1", "", ";"}, {"return ", "(", "1", ")", ";"}, {"g(", "(", "1", ")", ");"}, {"x = g(1, ", "-", "1", "", ");"},
		{"assert (", "(", "x == 1", ")", ");"}, {"assert (", "!", "x == 1", "", ");"}, {"assert (x == ", "(", "1", ")", ");"}, {"assert (", "-", "x", "", " == 1);"}, {"if (", "!", "p == null", "", ") {}"}, {"while (x == 1 && ", "(", "p == null", ")", ") {}"},
		{"", "if (x == 1) {", "", "}", ""}, {"", "while (x == 1) {", "", "}", ""},
	} {
		head := "fn f() {" + x.head
		rest := strings.Repeat(x.close, 39) + x.tail + "}"
		if _, at, err := Func(head + strings.Repeat(x.open, 39) + x.middle + rest); err != api.OK {
			t.Errorf("39 of %q: %d, %v", x.open, at, err)
		}
		fails(t, head+strings.Repeat(x.open, 40)+x.middle+x.close+rest, len(head)+40*len(x.open)-1, api.ErrDeep)
	}
	// Of several kinds: 1 block of the function, 20 others, 9 each of "!" and "(", 1 sign.
	head := "fn f() {" + strings.Repeat("while (x == 1) {", 20) + "if (" + strings.Repeat("!(", 9)
	tail := "1 < 2" + strings.Repeat(")", 9) + ") {}" + strings.Repeat("}", 21)
	if _, at, err := Func(head + "-" + tail); err != api.OK {
		t.Errorf("%d, %v", at, err)
	}
	fails(t, head+"--"+tail, len(head)+1, api.ErrDeep)
	fails(t, head+"!!"+tail, len(head)+1, api.ErrDeep)
	fails(t, head+"-("+tail, len(head)+1, api.ErrDeep)
	fails(t, head+"((("+tail, len(head)+1, api.ErrDeep)
	// What has ended is not open, and parentheses of statements and calls never are.
	body(t, "x = "+strings.Repeat("(1)+-1*", 200)+"1; assert ("+strings.Repeat("!(x == 1) && ", 100)+"x == 1);")
	body(t, strings.Repeat("if (x == 1) {} else {}", 99))
	// The block of an else is as deep as the one before it.
	others := strings.Repeat("if (x == 1) {} else {", 38)
	body(t, others+"if (x == 1) {} else {}"+strings.Repeat("}", 38))
	fails(t, "fn f() {"+others+"if (x == 1) {} else {while (x == 1) {}}", 8+38*21+36, api.ErrDeep)
	inside := strings.Repeat("(", 39) + "1" + strings.Repeat(")", 39)
	body(t, "x = g("+inside+","+inside+"); x = t["+inside+"]; t["+inside+"] = "+inside+"; if (x == "+inside+") {} else { } while (x == "+inside+") {} assert (x == "+inside+");")
}

// P7.2: one more parameter, local or statement than there may be, told at its name or its first token.
func TestMany(t *testing.T) {
	names := func(n int, head string) string { return head + strings.Repeat(","+head, n-1) }
	for _, head := range []string{"x", "*x"} {
		if f, at, err := Func("fn f(" + names(6, head) + ") {}"); err != api.OK || len(f.Params) != 6 {
			t.Errorf("%d, %v", at, err)
		}
		fails(t, "fn f("+names(7, head)+") {}", 5+6*(len(head)+1)+len(head)-1, api.ErrLong)
		fails(t, "fn f("+names(6, head)+",) {}", 5+6*(len(head)+1), api.ErrParse)
		fails(t, "fn f("+names(6, head)+",if) {}", 5+6*(len(head)+1), api.ErrParse)
		fails(t, "fn f("+names(6, head)+",*) {}", 5+6*(len(head)+1)+1, api.ErrParse)
		fails(t, "fn f("+names(6, head)+",x,", 5+6*(len(head)+1), api.ErrLong)
	}
	locals := strings.Repeat("var x;ptr y;", 10)
	if f, at, err := Func("fn f() {" + locals + "}"); err != api.OK || len(f.Locals) != 20 {
		t.Errorf("%d, %v", at, err)
	}
	fails(t, "fn f() {"+locals+"var z;}", 132, api.ErrLong)
	fails(t, "fn f() {"+locals+"ptr z", 132, api.ErrLong)
	fails(t, "fn f() {"+locals+"ptr ;}", 132, api.ErrParse)
	fails(t, "fn f() {"+locals+"var", 131, api.ErrParse)
	if l := body(t, strings.Repeat("x=1;", 200)); len(l) != 200 {
		t.Error(len(l))
	}
	for _, s := range []string{"x=1;", "x(1);", "x[1]=1;", "*x=1;", "return 1;", "assert(x==1);", "if(x==1){}", "while(x==1){}", "x"} {
		fails(t, "fn f() {"+strings.Repeat("x=1;", 200)+s+"}", 808, api.ErrLong)
	}
	for _, s := range []string{"1", ";", "=", "else", "null", "var x;", "fn", "(", "{", "-", ""} {
		fails(t, "fn f() {"+strings.Repeat("x=1;", 200)+s, 808, api.ErrParse)
	}
	fails(t, "fn f() {"+strings.Repeat("x=1;", 199)+"if(x==1){x=1;}}", 8+796+9, api.ErrLong)
	fails(t, "fn f() {"+strings.Repeat("x=1;", 198)+"if(x==1){}else{x=1;x=1;}}", 8+792+19, api.ErrLong)
}

// P7.2: of several errors the first one counts.
func TestFirstError(t *testing.T) {
	deep := "x = " + strings.Repeat("-", 40) + "1;"
	long := strings.Repeat("x=1;", 201)
	fails(t, "fn f() {"+deep+long+"}", 8+43, api.ErrDeep)
	fails(t, "fn f() {"+long+deep+"}", 808, api.ErrLong)
	fails(t, "fn f() {x = ;"+deep+long+"}", 12, api.ErrParse)
	fails(t, "fn f() {"+deep+"x = ;", 8+43, api.ErrDeep)
	fails(t, "fn f(a,b,c,d,e,g,h,,) {"+deep, 17, api.ErrLong)
	failsGlobals(t, strings.Repeat("cell a;", 19)+"array a[0]; cell a;", 141, api.ErrParse)
	failsGlobals(t, strings.Repeat("cell a;", 20)+"array a[0]; cell a;", 146, api.ErrLong)
}

// P7.3: cells and arrays, each in order.
func TestGlobals(t *testing.T) {
	for _, x := range []struct {
		s string
		g api.Globals
	}{
		{"", api.Globals{}}, {" # none\n", api.Globals{}}, {"cell a;", api.Globals{Cells: []string{"a"}}}, {"array a[1];", api.Globals{Arrays: []api.Array{{Name: "a", Len: 1}}}},
		{"array b [ 1048576 ] ; cell a ; array a[17];cell b;", api.Globals{Cells: []string{"a", "b"}, Arrays: []api.Array{{Name: "b", Len: 1 << 20}, {Name: "a", Len: 17}}}},
	} {
		if g, at, err := Globals(x.s); err != api.OK || at != 0 || !reflect.DeepEqual(g, x.g) {
			t.Errorf("%q: %d, %v, %+v", x.s, at, err, g)
		}
	}
	g, at, err := Globals(strings.Repeat("cell a; array b[2];", 10))
	if err != api.OK || len(g.Cells) != 10 || len(g.Arrays) != 10 {
		t.Errorf("%d, %v, %+v", at, err, g)
	}
}

// P7.3: the errors of globals, each at its token.
func TestGlobalsErrors(t *testing.T) {
	for _, s := range strings.Split("@x|@;|@1|@fn f() {}|@var x;|cell @;|cell @1;|cell @*x;|cell a@|cell a @cell b;|cell a@[1];|cell a@, b;|cell a;@;|cell a; @b;|cell a; @if|array @[1];|array a@;|array a @(1);|array a[@];|array a[@x];|array a[@-1];|array a[@(1)];|array a[@0];|array a[1 @+ 1];|array a[1@;|array a[1]@|array a[1] @= 1;|array a[1]@[1];|array a[1]; array b[@0", "|") {
		failsGlobals(t, strings.Replace(s, "@", "", 1), strings.Index(s, "@"), api.ErrParse)
	}
	for _, n := range []string{"1048577", "9223372036854775807", "4294967297", "2097152"} {
		failsGlobals(t, "array a["+n+"];", 8, api.ErrLong)
		failsGlobals(t, "cell b; array a["+n, 16, api.ErrLong)
	}
	for n := range 21 {
		l := strings.Repeat("cell a;", n) + strings.Repeat("array b[2];", 20-n)
		failsGlobals(t, l+"cell c;", len(l)+5, api.ErrLong)
		failsGlobals(t, l+"array c", len(l)+6, api.ErrLong)
		failsGlobals(t, l+"cell 1;", len(l)+5, api.ErrParse)
		failsGlobals(t, l+"array", len(l)+5, api.ErrParse)
	}
}

// P7.1, P7.2: functions of every form are read as they were made, and the first token that a limit forbids is told, whatever lies between the tokens.
func TestMade(t *testing.T) {
	found := [100]int{}
	for i := range 6000 {
		gaps := []string{" ", "\n", " \t", "#x\n", "\r"}
		m := &maker{numbers: numbers{uint64(i)}, most: 60, few: 2 + i%5, nested: 2 + i%7}
		if i%3 == 0 {
			m.most, m.few, m.nested, gaps = 900, 3+i%30, 10+i%90, []string{" "}
		}
		f := m.function(m.next(8), m.next(22)*m.next(2))
		s, at := m.write(m.words, gaps)
		if len(s) > api.MaxText {
			continue
		}
		found[m.err]++
		if m.err == api.OK {
			same(t, s, f)
		} else {
			fails(t, s, at[m.wrong], m.err)
		}
	}
	if found[api.OK] < 2000 || found[api.ErrDeep] < 200 || found[api.ErrLong] < 200 {
		t.Errorf("too few of a kind: %d, %d, %d", found[api.OK], found[api.ErrDeep], found[api.ErrLong])
	}
}

// P7.1, P7.2: a text is a function exactly if it has the syntax, and otherwise its first token that does not fit is told: for functions with a few words changed.
func TestChanged(t *testing.T) {
	pool := strings.Fields(keywords + " a x p 0 1 == != <= >= && || = < > + - * / % & ! ( ) { } [ ] , ;")
	grammar, good := funcRule(), 0
	for i := range 12000 {
		m := &maker{numbers: numbers{uint64(i) + 1<<40}, most: 10 + i%50, few: 2 + i%5, nested: 2 + i%5}
		m.function(m.next(4), m.next(4))
		if m.deepest > api.MaxDepth-2 {
			continue // the changes could make it too deep
		}
		s, _ := m.write(m.change(m.words, pool), []string{" ", "\n"})
		at, err := fit(grammar, s)
		f, gotAt, gotErr := Func(s)
		if gotAt != at || gotErr != err || err != api.OK && !reflect.DeepEqual(f, api.Func{}) {
			t.Errorf("%q: %d, %v, but want %d, %v", s, gotAt, gotErr, at, err)
		}
		if err == api.OK {
			good++
		}
	}
	if good < 500 || good > 11000 {
		t.Errorf("%d of the texts are functions", good)
	}
}

// change returns the words with one or two of them changed, removed, put in or swapped.
func (r *numbers) change(words, pool []string) []string {
	l := slices.Clone(words)
	for range 1 + r.next(2) {
		i := r.next(len(l))
		switch r.next(5) {
		case 0:
			l = slices.Delete(l, i, i+1)
		case 1:
			l = slices.Insert(l, i, pool[r.next(len(pool))])
		case 2:
			j := r.next(len(l))
			l[i], l[j] = l[j], l[i]
		default:
			l[i] = pool[r.next(len(pool))]
		}
	}
	return l
}

// P7.3: so for globals, of words without choice.
func TestChangedGlobals(t *testing.T) {
	pool := strings.Fields("cell array a b 0 1 1048576 [ ] ; ; , fn if")
	grammar, r, good := globalsRule(), &numbers{3}, 0
	for range 4000 {
		var words []string
		for range 1 + r.next(10) {
			words = append(words, strings.Fields([]string{"cell a ;", "array b [ 2 ] ;"}[r.next(2)])...)
		}
		if r.next(4) > 0 {
			words = r.change(words, pool)
		}
		s, _ := r.write(words, []string{" "})
		at, err := fit(grammar, s)
		g, gotAt, gotErr := Globals(s)
		if gotAt != at || gotErr != err || err != api.OK && !reflect.DeepEqual(g, api.Globals{}) {
			t.Errorf("%q: %d, %v, but want %d, %v", s, gotAt, gotErr, at, err)
		}
		if err == api.OK {
			good++
			if n := strings.Count(s, "cell"); len(g.Cells) != n || len(g.Cells)+len(g.Arrays) != strings.Count(s, ";") {
				t.Errorf("%q: %v", s, g)
			}
		}
	}
	if good < 500 || good > 3500 {
		t.Errorf("%d of the texts are globals", good)
	}
}

// P7.4, rules 1 and 8: every text denotes one function or none, always the same; so for globals. Whatever bytes there are, there is an answer, and its place is one of the text.
func TestAnyText(t *testing.T) {
	r := &numbers{11}
	pool := strings.Fields(keywords + " f x p 0 1 == != <= >= && || = < > + - * / % & ! ( ) { } [ ] , ; $ # 00 {} () fn\u00a0f")
	for i := range 20000 {
		var s string
		for range r.next(30) {
			s += pool[r.next(len(pool))] + []string{" ", ""}[r.next(2)]
		}
		if i%4 == 0 {
			s = "fn f() {" + s
		}
		f, at, err := Func(s)
		f2, at2, err2 := Func(s)
		g, atG, errG := Globals(s)
		g2, atG2, errG2 := Globals(s)
		if at != at2 || err != err2 || !reflect.DeepEqual(f, f2) || atG != atG2 || errG != errG2 || !reflect.DeepEqual(g, g2) {
			t.Errorf("%q: two answers", s)
		}
		if at < 0 || at > len(s) || atG < 0 || atG > len(s) {
			t.Errorf("%q: %d, %d", s, at, atG)
		}
		if err == api.OK && (at != 0 || f.Name == "") || err != api.OK && !reflect.DeepEqual(f, api.Func{}) || errG != api.OK && !reflect.DeepEqual(g, api.Globals{}) {
			t.Errorf("%q: %d, %v, %+v, %+v", s, at, err, f, g)
		}
	}
}

// Rule 3: no text of an answer is a part of s, and no list of it shares memory with another one.
func TestNewMemory(t *testing.T) {
	s := strings.Clone("fn ff(aa, *bb) { var cc; ptr dd; xx = yy; if (pp == null) { gg(uu, vv); } else { tt[ii] = jj; } }")
	g := strings.Clone("cell aa; array bb[2];")
	f, _, _ := Func(s)
	gs, _, _ := Globals(g)
	names := []string{f.Name, f.Params[0].Name, f.Params[1].Name, f.Locals[0].Name, f.Locals[1].Name, f.Body[0].X, f.Body[0].E.Name, f.Body[1].C.Name, f.Body[1].Then[0].Y, f.Body[1].Then[0].Args[1].E.Name, f.Body[1].Else[0].Y, f.Body[1].Else[0].E.Name, gs.Cells[0], gs.Arrays[0].Name}
	for i, n := range names {
		for _, text := range []string{s, g} {
			begin, at := uintptr(unsafe.Pointer(unsafe.StringData(text))), uintptr(unsafe.Pointer(unsafe.StringData(n)))
			if at >= begin && at < begin+uintptr(len(text)) {
				t.Errorf("%d, %q, is a part of the text", i, n)
			}
		}
	}
	_ = append(f.Params, api.Var{Name: "new"})
	_ = append(f.Locals, api.Var{Name: "new"})
	_ = append(f.Body, api.Stmt{X: "new"})
	_ = append(f.Body[1].Then, api.Stmt{X: "new"})
	_ = append(f.Body[1].Else, api.Stmt{X: "new"})
	_ = append(f.Body[1].Then[0].Args, api.Arg{Name: "new"})
	f.Body[0].E.Name, f.Body[1].Then[0].Args[0].E.Name = "new", "new"
	same(t, strings.NewReplacer("yy", "new", "uu", "new").Replace(s), f)
	again, _, _ := Func(s)
	if again.Body[0].E.Name != "yy" {
		t.Error("an answer is changed by another one's")
	}
}

// P7.3: an array's length is the number that is written.
func TestLengths(t *testing.T) {
	for n := 1; n <= api.MaxLen; n += 1 + n/3 {
		g, at, err := Globals("array a[" + strconv.Itoa(n) + "];")
		if err != api.OK || g.Arrays[0].Len != n {
			t.Errorf("%d: %d, %v, %v", n, at, err, g)
		}
	}
}
