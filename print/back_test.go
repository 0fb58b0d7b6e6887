package print

import (
	"reflect"
	"strconv"
	"strings"
	"testing"

	"augur/api"
	"augur/parse"
)

// back checks that the text of f denotes f, and has no other text.
func back(t *testing.T, f api.Func) {
	t.Helper()
	s := Func(f)
	g, at, err := parse.Func(s)
	if err != api.OK || !reflect.DeepEqual(f, g) {
		t.Fatalf("%q: %d, %v, %+v, but want %+v", s, at, err, g, f)
	}
	is(t, Func(g), s)
}

// parsed returns the function that s denotes.
func parsed(t *testing.T, s string) api.Func {
	t.Helper()
	f, at, err := parse.Func(s)
	if err != api.OK {
		t.Fatalf("%.300q: %d, %v", s, at, err)
	}
	return f
}

// returned is a function that returns e; asserted, one that asserts c.
func returned(e *api.Expr) api.Func { return api.Func{Name: "f", Body: []api.Stmt{returns(e)}} }
func asserted(c *api.Cond) api.Func {
	return api.Func{Name: "f", Body: []api.Stmt{{Kind: api.SAssert, C: c}}}
}

// exprs are all expressions of so many levels of operations at most.
func exprs(levels int) []*api.Expr {
	l := []*api.Expr{variable("x")}
	if levels == 0 {
		return append(l, num(1))
	}
	inner := exprs(levels - 1)
	for _, a := range inner {
		l = append(l, neg(a))
		for _, o := range operations() {
			for _, b := range inner {
				l = append(l, two(o.kind, a, b))
			}
		}
	}
	return l
}

// conds are all conditions of so many levels of signs at most.
func conds(levels int) []*api.Cond {
	l := []*api.Cond{null("p"), compared(api.CEq, variable("x"), num(1))}
	if levels == 0 {
		return l
	}
	inner := conds(levels - 1)
	for _, p := range inner {
		l = append(l, not(p))
		for _, q := range inner {
			l = append(l, joined(api.CAnd, p, q), joined(api.COr, p, q))
		}
	}
	return l
}

// P8.3: all expressions and conditions of few levels.
func TestBackLevels(t *testing.T) {
	for _, e := range exprs(2) {
		back(t, returned(e))
	}
	for _, c := range conds(2) {
		back(t, asserted(c))
		back(t, asserted(not(not(c))))
	}
	for _, o := range comparisons() {
		for _, e := range exprs(1) {
			for _, a := range []*api.Expr{e, neg(e), two(api.ESub, num(0), e)} {
				back(t, asserted(compared(o.kind, variable("y"), a)))
				back(t, asserted(compared(o.kind, a, variable("y"))))
				back(t, asserted(not(compared(o.kind, a, e))))
			}
		}
	}
}

// P8.3: functions of all parts of the syntax, also in texts that are written otherwise.
func TestBackFuncs(t *testing.T) {
	w := &writer{n: 3}
	for made := 0; made < 3000; {
		w.text.Reset()
		// A longer one might be too long when it is written with all its blanks.
		if s := w.function(); len(s) < 2000 {
			back(t, parsed(t, s))
			made++
		}
	}
	is(t, Func(parsed(t, "fn f(x,*p){var y;ptr q;#\nif((x==(1))){}else{}while(((p==null))){x=(x);}}")),
		"fn f(x, *p) {\n\tvar y;\n\tptr q;\n\tif (x == 1) {\n\t}\n\twhile (p == null) {\n\t\tx = x;\n\t}\n}\n")
}

// P8.3: what is as long, as many and as deep as may be.
func TestBackLimits(t *testing.T) {
	s := strings.Repeat
	name := s("n", api.MaxName)
	back(t, parsed(t, "fn "+name+"(*"+name+s(","+name, 5)+"){"+s("var "+name+";", 20)+"x=9223372036854775807;}"))
	back(t, parsed(t, "fn f(){"+s("x=1;", 200)+"}"))
	back(t, parsed(t, "fn f(){"+s("while(x==1){", 39)+s("}", 40)))
	back(t, parsed(t, "fn f(){"+s("if(x==1){}else{", 39)+s("}", 40)))
	back(t, parsed(t, "fn f(){"+s("if(x==1){}else{", 38)+"x=1;"+s("}", 39)))
	back(t, parsed(t, "fn f(){x="+s("-", 39)+"1;}"))
	back(t, parsed(t, "fn f(){x="+s("1-(", 39)+"1"+s(")", 39)+";}"))
	back(t, parsed(t, "fn f(){assert("+s("!", 39)+"p==null);}"))
	back(t, parsed(t, "fn f(){assert("+s("!(", 19)+"x==1"+s(")", 19)+");}"))
	back(t, parsed(t, "fn f(){assert("+s("x==1&&(x==1||(", 19)+"x==1"+s("))", 19)+");}"))
}

// P8.1 tells the form of a text, whatever its limits: a text that is longer or deeper by its form than the one that was read is no longer read.
func TestBeyondLimits(t *testing.T) {
	deep := Func(parsed(t, "fn f(){assert("+strings.Repeat("!", 39)+"x==1);}"))
	is(t, deep, "fn f() {\n\tassert ("+strings.Repeat("!", 39)+"(x == 1));\n}\n")
	if _, at, err := parse.Func(deep); err != api.ErrDeep || at != 57 {
		t.Errorf("%d, %v", at, err)
	}
	long := Func(parsed(t, "fn f(){x=1"+strings.Repeat("+1", 2000)+";}"))
	is(t, long, "fn f() {\n\tx = 1"+strings.Repeat(" + 1", 2000)+";\n}\n")
	if _, _, err := parse.Func(long); err != api.ErrLong {
		t.Error(err)
	}
}

// The text of globals denotes them.
func TestBackGlobals(t *testing.T) {
	for cells := range api.MaxGlobals + 1 {
		var g api.Globals
		for i := range api.MaxGlobals {
			if i < cells {
				g.Cells = append(g.Cells, "c"+strconv.Itoa(i))
			} else {
				g.Arrays = append(g.Arrays, api.Array{Name: "a" + strconv.Itoa(i), Len: 1 << i})
			}
		}
		h, at, err := parse.Globals(Globals(g))
		if err != api.OK || !reflect.DeepEqual(g, h) {
			t.Errorf("%d, %v, %+v", at, err, h)
		}
	}
}

// writer writes texts of functions by the syntax, with more parentheses and blanks than there need be. Its numbers are a fixed row.
type writer struct {
	n    uint64
	text strings.Builder
	deep int // parts that may be nested further
}

func (w *writer) next(n int) int {
	w.n = w.n*6364136223846793005 + 1442695040888963407
	return int(w.n >> 33 % uint64(n))
}

// put writes words, with blanks about them.
func (w *writer) put(words ...string) {
	for _, s := range words {
		w.text.WriteString([]string{" ", "\n", "\t ", " #;\n"}[w.next(4)] + s)
	}
}

// pick writes one of the words of a text.
func (w *writer) pick(words string) {
	l := strings.Fields(words)
	w.put(l[w.next(len(l))])
}

func (w *writer) name() { w.pick("x y z p q a_1 _") }

// nested writes a part if more may be nested, and otherwise a short one.
func (w *writer) nested(part, short func()) {
	if w.deep == 0 {
		short()
		return
	}
	w.deep--
	part()
	w.deep++
}

func (w *writer) chain(part func(), signs string) {
	part()
	for w.next(4) == 0 {
		w.pick(signs)
		part()
	}
}

func (w *writer) sum() { w.chain(func() { w.chain(w.un, "* / %") }, "+ -") }

func (w *writer) un() {
	switch w.next(4) {
	case 0:
		w.minus()
	case 1:
		w.nested(func() { w.put("("); w.sum(); w.put(")") }, w.leaf)
	default:
		w.leaf()
	}
}

func (w *writer) minus() { w.nested(func() { w.put("-"); w.un() }, w.leaf) }
func (w *writer) leaf()  { w.pick("x y z 0 1 255 9223372036854775807") }

func (w *writer) cond() { w.chain(func() { w.chain(w.not, "&&") }, "||") }

func (w *writer) not() {
	switch w.next(5) {
	case 0:
		w.nested(func() { w.put("!"); w.not() }, w.nullTest)
	case 1:
		w.nested(func() { w.put("("); w.cond(); w.put(")") }, w.comparison)
	case 2:
		w.nullTest()
	default:
		w.comparison()
	}
}

func (w *writer) nullTest() {
	w.name()
	w.pick("== !=")
	w.put("null")
}

// comparison writes a comparison. A parenthesis at its beginning would be one of a condition.
func (w *writer) comparison() {
	w.minus()
	for w.next(3) == 0 {
		w.pick("+ - * / %")
		w.un()
	}
	w.pick("== != < <= > >=")
	w.sum()
}

func (w *writer) args() {
	w.put("(")
	for i := range w.next(4) {
		if i > 0 {
			w.put(",")
		}
		w.sum()
	}
	w.put(")")
}

func (w *writer) index() {
	w.put("[")
	w.sum()
	w.put("]")
}

func (w *writer) block() {
	w.put("{")
	for w.next(3) != 0 {
		w.stmt()
	}
	w.put("}")
}

func (w *writer) test(word string) {
	w.put(word, "(")
	w.cond()
	w.put(")")
}

func (w *writer) stmt() {
	switch w.next(4) {
	case 0:
		w.nested(w.branch, w.returns)
	case 1:
		w.nested(func() { w.test("while"); w.block() }, w.returns)
	default:
		w.simple()
		w.put(";")
	}
}

func (w *writer) returns() {
	w.put("return")
	w.sum()
	w.put(";")
}

func (w *writer) branch() {
	w.test("if")
	w.block()
	if w.next(2) == 0 {
		w.put("else")
		w.block()
	}
}

func (w *writer) simple() {
	switch w.next(6) {
	case 0:
		w.name()
		w.args()
	case 1:
		w.name()
		w.index()
		w.put("=")
		w.sum()
	case 2:
		w.put("*")
		w.name()
		w.put("=")
		w.sum()
	case 3:
		w.test("assert")
	default:
		w.name()
		w.put("=")
		w.value()
	}
}

func (w *writer) value() {
	switch w.next(6) {
	case 0:
		w.put("null")
	case 1:
		w.pick("& *")
		w.name()
	case 2:
		w.name()
		w.index()
	case 3:
		w.name()
		w.args()
	default:
		w.sum()
	}
}

func (w *writer) function() string {
	w.deep = 4
	w.put("fn")
	w.name()
	w.put("(")
	for i := range w.next(4) {
		if i > 0 {
			w.put(",")
		}
		if w.next(2) == 0 {
			w.put("*")
		}
		w.name()
	}
	w.put(")", "{")
	for range w.next(4) {
		w.pick("var ptr")
		w.name()
		w.put(";")
	}
	for range w.next(4) {
		w.stmt()
	}
	w.put("}")
	return w.text.String()
}
