package parse

import (
	"strconv"

	"augur/api"
)

// position is a place in the tokens of a text.
type position struct {
	left []api.Token // from the next one on
	size int         // the length of the text
}

// offset returns where the next token begins, or where the text ends.
func (p *position) offset() int {
	if len(p.left) == 0 {
		return p.size
	}
	return p.left[0].At
}

// text returns the text of the token that is n behind the next one. It is empty if there is none, which no token's is.
func (p *position) text(n int) string {
	if n >= len(p.left) {
		return ""
	}
	return p.left[n].Text
}

// sees tells whether the next token has this text. By it alone every operator and every keyword is known.
func (p *position) sees(text string) bool { return p.text(0) == text }

// seesName tells whether the next token is a name.
func (p *position) seesName() bool {
	return len(p.left) > 0 && p.left[0].Kind == api.TokName && !keyword(p.left[0].Text)
}

// seesNumber tells whether the next token is a number.
func (p *position) seesNumber() bool {
	return len(p.left) > 0 && p.left[0].Kind == api.TokNum
}

// take passes the next token, which is there, and returns its text.
func (p *position) take() string {
	text := p.left[0].Text
	p.left = p.left[1:]
	return text
}

// passes passes the next token if it has this text, and tells whether it has.
func (p *position) passes(text string) bool {
	ok := p.sees(text)
	if ok {
		p.take()
	}
	return ok
}

// pass passes the next token, which must have this text.
func (p *position) pass(text string) { need(p.passes(text), api.ErrParse) }

// name passes the next token, which must be a name.
func (p *position) name() string {
	need(p.seesName(), api.ErrParse)
	return p.take()
}

// declared passes the next token, which must be a name, one of at most so many, that n others precede.
func (p *position) declared(n, most int) string {
	need(p.seesName(), api.ErrParse)
	need(n < most, api.ErrLong)
	return p.take()
}

// number returns the value of the next token, which must be a number. It passes nothing, since the value may be what is wrong.
func (p *position) number() int64 {
	need(p.seesNumber(), api.ErrParse)
	// The lexer makes no number of digits that have no such value.
	n, _ := strconv.ParseInt(p.text(0), 10, 64)
	return n
}

func keyword(text string) bool {
	switch text {
	case "fn", "var", "ptr", "if", "else", "while", "return", "assert", "null", "cell", "array":
		return true
	}
	return false
}
