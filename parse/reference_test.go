package parse

import (
	"strconv"
	"strings"

	"augur/api"
	"augur/lex"
)

// reading is a text's tokens, and the last of them that any rule has looked at: if the rules don't fit, it is the first one that does not.
type reading struct {
	l   []api.Token
	far int
}

// rule is a part of the syntax: it tells then each place at which the part may end that begins at place i. All alternatives are tried, and nothing is known of what follows.
type rule func(x *reading, i int, then func(int))

// token is a token for which fits holds.
func token(fits func(api.Token) bool) rule {
	return func(x *reading, i int, then func(int)) {
		x.far = max(x.far, i)
		if i < len(x.l) && fits(x.l[i]) {
			then(i + 1)
		}
	}
}

// word is a token of one of these texts.
func word(texts string) rule {
	return token(func(t api.Token) bool { return strings.Contains(" "+texts+" ", " "+t.Text+" ") })
}

// row is parts behind one another.
func row(parts ...rule) rule {
	if len(parts) == 0 {
		return func(x *reading, i int, then func(int)) { then(i) }
	}
	rest := row(parts[1:]...)
	return func(x *reading, i int, then func(int)) {
		parts[0](x, i, func(j int) { rest(x, j, then) })
	}
}

// one is one of several parts.
func one(parts ...rule) rule {
	return func(x *reading, i int, then func(int)) {
		for _, p := range parts {
			p(x, i, then)
		}
	}
}

func maybe(parts ...rule) rule { return one(row(), row(parts...)) }

func many(parts ...rule) rule {
	part := row(parts...)
	var all rule
	all = func(x *reading, i int, then func(int)) {
		then(i)
		part(x, i, func(j int) { all(x, j, then) })
	}
	return all
}

// later is a rule that is made later.
func later(r *rule) rule {
	return func(x *reading, i int, then func(int)) { (*r)(x, i, then) }
}

const keywords = "fn var ptr if else while return assert null cell array"

func nameRule() rule {
	return token(func(t api.Token) bool {
		return t.Kind == api.TokName && !strings.Contains(" "+keywords+" ", " "+t.Text+" ")
	})
}

func numberRule() rule {
	return token(func(t api.Token) bool { return t.Kind == api.TokNum })
}

// sums are the rules of a sum, and of one that does not begin with a parenthesis.
func sums() (rule, rule) {
	var sum, un rule
	name, number := nameRule(), numberRule()
	plain := one(row(word("-"), later(&un)), number, name)
	un = one(plain, row(word("("), later(&sum), word(")")))
	chain := func(first rule) rule {
		prods := row(un, many(word("* / %"), un))
		return row(first, many(word("* / %"), un), many(word("+ -"), prods))
	}
	sum = chain(un)
	return sum, chain(plain)
}

func condRule() rule {
	var cond, not rule
	sum, plain := sums()
	not = one(
		row(word("!"), later(&not)),
		row(word("("), later(&cond), word(")")),
		row(nameRule(), word("== !="), word("null")),
		row(plain, word("== != < <= > >="), sum))
	and := row(later(&not), many(word("&&"), later(&not)))
	cond = row(and, many(word("||"), and))
	return cond
}

// funcRule is the syntax of functions, as P7.1 tells it.
func funcRule() rule {
	name, cond := nameRule(), condRule()
	sum, _ := sums()
	var stmt rule
	block := row(word("{"), many(later(&stmt)), word("}"))
	args := maybe(sum, many(word(","), sum))
	value := one(word("null"), row(word("&"), name), row(word("*"), name),
		row(name, word("["), sum, word("]")), row(name, word("("), args, word(")")), sum)
	stmt = one(
		row(name, word("="), value, word(";")),
		row(name, word("("), args, word(")"), word(";")),
		row(name, word("["), sum, word("]"), word("="), sum, word(";")),
		row(word("*"), name, word("="), sum, word(";")),
		row(word("return"), sum, word(";")),
		row(word("assert"), word("("), cond, word(")"), word(";")),
		row(word("if"), word("("), cond, word(")"), block, maybe(word("else"), block)),
		row(word("while"), word("("), cond, word(")"), block))
	param := one(name, row(word("*"), name))
	return row(word("fn"), name, word("("), maybe(param, many(word(","), param)), word(")"), word("{"),
		many(word("var ptr"), name, word(";")), many(stmt), word("}"))
}

// globalsRule is the syntax of globals, as P7.3 tells it.
func globalsRule() rule {
	length := token(func(t api.Token) bool { return t.Kind == api.TokNum && t.Text != "0" })
	return many(one(
		row(word("cell"), nameRule(), word(";")),
		row(word("array"), nameRule(), word("["), length, word("]"), word(";"))))
}

// fit tells whether s is of a syntax, and otherwise the error and its place. It knows of no limits but those of tokens.
func fit(r rule, s string) (int, api.Errno) {
	l, at, err := lex.Tokens(s)
	if err != api.OK {
		return at, err
	}
	x, whole := &reading{l: l}, false
	r(x, 0, func(i int) {
		x.far = max(x.far, i)
		whole = whole || i == len(l)
	})
	switch {
	case whole:
		return 0, api.OK
	case x.far == len(l):
		return len(s), api.ErrParse
	}
	return l[x.far].At, api.ErrParse
}

// numbers is a fixed row of numbers.
type numbers struct{ x uint64 }

func (r *numbers) next(n int) int {
	r.x = r.x*6364136223846793005 + 1442695040888963407
	return int(r.x >> 33 % uint64(n))
}

// maker makes functions, and their words as P7.1 has them. It tells which word is the first one that a limit forbids.
type maker struct {
	numbers
	words       []string
	most        int // words from which on nothing is nested any more
	few         int // one of so many parts has another one beside it
	nested      int // of so many parts, one nests nothing
	open, begun int
	deepest     int // the most parts that were open
	wrong       int // the place of the first forbidden word
	err         api.Errno
}

func (m *maker) put(words ...string) { m.words = append(m.words, words...) }

// limit says that the next word is forbidden if it is one more than so many.
func (m *maker) limit(n, most int, err api.Errno) {
	if n > most && m.err == api.OK {
		m.wrong, m.err = len(m.words), err
	}
}

func (m *maker) enter(word string) {
	m.open++
	m.deepest = max(m.deepest, m.open)
	m.limit(m.open, 40, api.ErrDeep)
	m.put(word)
}

func (m *maker) leave(word ...string) {
	m.open--
	m.put(word...)
}

// again tells whether another part follows; nest, whether something is nested.
func (m *maker) again() bool { return len(m.words) < m.most && m.next(m.few) == 0 }
func (m *maker) nest() bool  { return len(m.words) < m.most && m.next(m.nested) != 0 }

// name puts a name; some hold a keyword within.
func (m *maker) name() string {
	names := strings.Fields("a b c x y p q t f g _ a1 x_ If null0 _fn iff variable ELSE z")
	s := names[m.next(len(names))]
	m.put(s)
	return s
}

func (m *maker) sum() *api.Expr {
	e := m.prod()
	for m.again() {
		i := m.next(2)
		m.put([]string{"+", "-"}[i])
		e = &api.Expr{Kind: []int{api.EAdd, api.ESub}[i], A: e, B: m.prod()}
	}
	return e
}

func (m *maker) prod() *api.Expr {
	e := m.un()
	for m.again() {
		i := m.next(3)
		m.put([]string{"*", "/", "%"}[i])
		e = &api.Expr{Kind: []int{api.EMul, api.EDiv, api.EMod}[i], A: e, B: m.un()}
	}
	return e
}

func (m *maker) un() *api.Expr {
	if m.nest() {
		if m.next(2) == 0 {
			m.enter("-")
			e := &api.Expr{Kind: api.ENeg, A: m.un()}
			m.leave()
			return e
		}
		m.enter("(")
		e := m.sum()
		m.leave(")")
		return e
	}
	return m.leaf()
}

func (m *maker) leaf() *api.Expr {
	if m.next(2) == 0 {
		return &api.Expr{Kind: api.EVar, Name: m.name()}
	}
	n := []int64{0, 1, 2, 17, 1048577, 9223372036854775807}[m.next(6)]
	m.put(strconv.FormatInt(n, 10))
	return &api.Expr{Kind: api.ENum, N: n}
}

func (m *maker) cond() *api.Cond {
	c := m.and()
	for m.again() {
		m.put("||")
		c = &api.Cond{Kind: api.COr, P: c, Q: m.and()}
	}
	return c
}

func (m *maker) and() *api.Cond {
	c := m.not()
	for m.again() {
		m.put("&&")
		c = &api.Cond{Kind: api.CAnd, P: c, Q: m.not()}
	}
	return c
}

func (m *maker) not() *api.Cond {
	if m.nest() {
		if m.next(2) == 0 {
			m.enter("!")
			c := &api.Cond{Kind: api.CNot, P: m.not()}
			m.leave()
			return c
		}
		m.enter("(")
		c := m.cond()
		m.leave(")")
		return c
	}
	if m.next(4) == 0 {
		c := &api.Cond{Kind: api.CNull, Name: m.name()}
		if m.next(2) == 0 {
			m.put("==", "null")
			return c
		}
		m.put("!=", "null")
		return &api.Cond{Kind: api.CNot, P: c}
	}
	return m.comparison()
}

func (m *maker) comparison() *api.Cond {
	c := &api.Cond{}
	// A parenthesis here would be one of a condition.
	if m.nest() {
		m.enter("-")
		c.A = &api.Expr{Kind: api.ENeg, A: m.un()}
		m.leave()
	} else {
		c.A = m.leaf()
	}
	for m.again() {
		m.put("-")
		c.A = &api.Expr{Kind: api.ESub, A: c.A, B: m.prod()}
	}
	i := m.next(6)
	m.put([]string{"==", "!=", "<", "<=", ">", ">="}[i])
	c.Kind = []int{api.CEq, api.CNe, api.CLt, api.CLe, api.CGt, api.CGe}[i]
	c.B = m.sum()
	return c
}

func (m *maker) args() []api.Arg {
	var l []api.Arg
	m.put("(")
	for m.next(3) != 0 {
		if l != nil {
			m.put(",")
		}
		l = append(l, api.Arg{E: m.sum()})
	}
	m.put(")")
	return l
}

func (m *maker) block() []api.Stmt {
	m.enter("{")
	l := m.stmts()
	m.leave("}")
	return l
}

func (m *maker) stmts() []api.Stmt {
	var l []api.Stmt
	for m.nest() || m.again() {
		l = append(l, m.stmt())
		if m.next(m.few) != 0 {
			break
		}
	}
	return l
}

func (m *maker) stmt() api.Stmt {
	at := m.begun
	m.begun++
	m.limit(m.begun, 200, api.ErrLong)
	s := m.unnumbered()
	s.At = at
	return s
}

// test puts the condition of a statement behind the statement's word.
func (m *maker) test(word string) *api.Cond {
	m.put(word, "(")
	c := m.cond()
	m.put(")")
	return c
}

func (m *maker) unnumbered() api.Stmt {
	if m.nest() {
		if m.next(2) == 0 {
			return api.Stmt{Kind: api.SWhile, C: m.test("while"), Then: m.block()}
		}
		s := api.Stmt{Kind: api.SIf, C: m.test("if"), Then: m.block()}
		if m.again() {
			m.put("else")
			s.Else = m.block()
		}
		return s
	}
	s := m.simple()
	m.put(";")
	return s
}

func (m *maker) simple() api.Stmt {
	switch m.next(6) {
	case 0:
		m.put("return")
		return api.Stmt{Kind: api.SReturn, E: m.sum()}
	case 1:
		return api.Stmt{Kind: api.SAssert, C: m.test("assert")}
	case 2:
		m.put("*")
		s := api.Stmt{Kind: api.SStore, X: m.name()}
		m.put("=")
		s.E = m.sum()
		return s
	case 3:
		s := m.index()
		s.Kind = api.SPut
		m.put("=")
		s.F = m.sum()
		return s
	case 4:
		return api.Stmt{Kind: api.SCall, Y: m.name(), Args: m.args()}
	}
	x := m.name()
	m.put("=")
	s := m.value()
	s.X = x
	return s
}

func (m *maker) index() api.Stmt {
	s := api.Stmt{Kind: api.SIndex, Y: m.name()}
	m.put("[")
	s.E = m.sum()
	m.put("]")
	return s
}

func (m *maker) value() api.Stmt {
	switch m.next(7) {
	case 0:
		m.put("null")
		return api.Stmt{Kind: api.SNull}
	case 1:
		m.put("&")
		return api.Stmt{Kind: api.SAddr, Y: m.name()}
	case 2:
		m.put("*")
		return api.Stmt{Kind: api.SLoad, Y: m.name()}
	case 3:
		return m.index()
	case 4:
		return api.Stmt{Kind: api.SCall, Y: m.name(), Args: m.args()}
	}
	return api.Stmt{Kind: api.SAssign, E: m.sum()}
}

// variable puts a parameter or a local that n others precede, behind the word of its kind.
func (m *maker) variable(kinds []string, n, most int) api.Var {
	i := m.next(2)
	if kinds[i] != "" {
		m.put(kinds[i])
	}
	m.limit(n+1, most, api.ErrLong)
	return api.Var{Name: m.name(), Ptr: i == 1}
}

func (m *maker) function(params, locals int) api.Func {
	m.put("fn")
	f := api.Func{Name: m.name()}
	m.put("(")
	for i := range params {
		if i > 0 {
			m.put(",")
		}
		f.Params = append(f.Params, m.variable([]string{"", "*"}, i, 6))
	}
	m.put(")")
	m.enter("{")
	for i := range locals {
		f.Locals = append(f.Locals, m.variable([]string{"var", "ptr"}, i, 20))
		m.put(";")
	}
	f.Body = m.stmts()
	m.leave("}")
	return f
}

// write returns a text of these words, and where each of them begins; last, where the text ends.
func (r *numbers) write(words []string, gaps []string) (string, []int) {
	var b strings.Builder
	var at []int
	for i, w := range words {
		if i == 0 || wordy(words[i-1]) != wordy(w) {
			b.WriteString(append(gaps, "")[r.next(len(gaps)+1)])
		} else {
			b.WriteString(gaps[r.next(len(gaps))])
		}
		at = append(at, b.Len())
		b.WriteString(w)
	}
	return b.String(), append(at, b.Len())
}

// wordy tells whether a word is a name or a number.
func wordy(w string) bool { return strings.Trim(w, "=!<>+-*/%&|(){}[],;") != "" }
