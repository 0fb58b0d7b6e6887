package lex

import (
	"math"
	"math/big"
	"regexp"
	"slices"
	"strconv"
	"strings"
	"testing"
	"unsafe"

	"augur/api"
)

// numbers is a fixed row of numbers.
type numbers struct{ x uint64 }

func (r *numbers) next(n int) int {
	r.x = r.x*6364136223846793005 + 1442695040888963407
	return int(r.x >> 33 % uint64(n))
}

// text returns up to most of the words, one behind another.
func (r *numbers) text(words []string, most int) string {
	var b strings.Builder
	for range r.next(most + 1) {
		b.WriteString(words[r.next(len(words))])
	}
	return b.String()
}

// operators are those of P6.1, in its order.
func operators() []string {
	return strings.Fields("== != <= >= && || = < > + - * / % & ! ( ) { } [ ] , ;")
}

func allBytes() []string {
	var l []string
	for b := range 256 {
		l = append(l, string([]byte{byte(b)}))
	}
	return l
}

// The parts of a text, as P6.1 tells them.
var (
	gapPattern    = regexp.MustCompile(`^([ \t\r\n]+|#[^\n]*)`)
	gapsPattern   = regexp.MustCompile(`^([ \t\r\n]|#[^\n]*\n)*$`)
	namePattern   = regexp.MustCompile(`^[A-Za-z_][A-Za-z0-9_]*`)
	numberPattern = regexp.MustCompile(`^[0-9]+`)
	wrongBehind   = regexp.MustCompile(`^[A-Za-z_]`)
)

// want is P6.1 said once more, by patterns that are tried one after another.
func want(s string) ([]api.Token, int, api.Errno) {
	if len(s) > 4096 {
		return nil, 0, api.ErrLong
	}
	var l []api.Token
	for at := 0; at < len(s); {
		rest := s[at:]
		if t := gapPattern.FindString(rest); t != "" {
			at += len(t)
			continue
		}
		t, kind, err := "", 0, api.OK
		if t = namePattern.FindString(rest); t != "" {
			kind = api.TokName
			if len(t) > 32 {
				err = api.ErrLong
			}
		} else if t = numberPattern.FindString(rest); t != "" {
			kind = api.TokNum
			if n, _ := new(big.Int).SetString(t, 10); n.Cmp(big.NewInt(math.MaxInt64)) > 0 {
				err = api.ErrLong
			} else if wrongBehind.MatchString(rest[len(t):]) || len(t) > 1 && t[0] == '0' {
				err = api.ErrLex
			}
		} else {
			kind, err = api.TokOp, api.ErrLex
			for _, o := range operators() {
				if strings.HasPrefix(rest, o) && len(o) > len(t) {
					t, err = o, api.OK
				}
			}
		}
		if err != api.OK {
			return nil, at, err
		}
		l = append(l, api.Token{Kind: kind, Text: t, At: at})
		at += len(t)
	}
	return l, 0, api.OK
}

// check holds the answer for s against that of want.
func check(t *testing.T, s string) {
	t.Helper()
	l, at, err := Tokens(s)
	wl, wat, werr := want(s)
	if !slices.Equal(l, wl) || at != wat || err != werr {
		t.Errorf("%.60q: %v, %d, %v, but want %v, %d, %v", s, l, at, err, wl, wat, werr)
	}
}

// fails checks that s has an error at an offset, and nothing beside it.
func fails(t *testing.T, s string, at int, err api.Errno) {
	t.Helper()
	l, a, e := Tokens(s)
	if len(l) > 0 || a != at || e != err {
		t.Errorf("%.60q: %v, %d, %v, but want %d, %v", s, l, a, e, at, err)
	}
}

// texts checks that s has tokens of these texts, and no error.
func texts(t *testing.T, s string, words ...string) []api.Token {
	t.Helper()
	l, at, err := Tokens(s)
	var got []string
	for _, x := range l {
		got = append(got, x.Text)
	}
	if !slices.Equal(got, words) || at != 0 || err != api.OK {
		t.Errorf("%.60q: %q, %d, %v, but want %q", s, got, at, err, words)
	}
	return l
}

// P6.1: the tokens of s in order, each with its kind, its text and the offset of its first byte.
func TestTokens(t *testing.T) {
	texts(t, "")
	l := texts(t, "a<=b", "a", "<=", "b")
	if !slices.Equal(l, []api.Token{{Kind: api.TokName, Text: "a"}, {Kind: api.TokOp, Text: "<=", At: 1}, {Kind: api.TokName, Text: "b", At: 3}}) {
		t.Errorf("%v", l)
	}
	l = texts(t, "\t x1 # y\n\r 20;", "x1", "20", ";")
	if !slices.Equal(l, []api.Token{{Kind: api.TokName, Text: "x1", At: 2}, {Kind: api.TokNum, Text: "20", At: 11}, {Kind: api.TokOp, Text: ";", At: 13}}) {
		t.Errorf("%v", l)
	}
	check(t, "fn f(x, *p) { var y; y = -x * 2 % 3; while (y != 0 && !(p == null)) { *p = a[y]; } return y / x; } # ends")
}

// P6.1: a text of MaxText bytes is read, a longer one is not, whatever it has.
func TestLongText(t *testing.T) {
	texts(t, strings.Repeat(" ", api.MaxText-1)+"x", "x")
	fails(t, strings.Repeat(" ", api.MaxText-1)+"$", api.MaxText-1, api.ErrLex)
	for _, s := range []string{" ", "$", "a", "#", "9"} {
		fails(t, strings.Repeat(s, api.MaxText+1), 0, api.ErrLong)
	}
	fails(t, "x $"+strings.Repeat(" ", api.MaxText), 0, api.ErrLong)
	if l, _, err := Tokens(strings.Repeat("<", api.MaxText)); len(l) != api.MaxText || err != api.OK {
		t.Errorf("%d, %v", len(l), err)
	}
}

// P6.1: blanks and comments are skipped; a comment ends at a line feed or with the text.
func TestGaps(t *testing.T) {
	texts(t, " \t\r\n")
	texts(t, "#")
	texts(t, "#x")
	texts(t, "# x\r y\n")
	texts(t, "# x\r y\nz", "z")
	texts(t, "a#b#\nc", "a", "c")
	texts(t, "1#", "1")
	texts(t, "a#\x00\xff $ 01 | \"\n#\nb", "a", "b")
	texts(t, "a# "+strings.Repeat("9", 40)+strings.Repeat("x", 40), "a")
	fails(t, "# x\r y\n$", 7, api.ErrLex)
	for _, b := range []string{"\v", "\f", "\u0085", "\u00a0", "\x00"} {
		fails(t, "a "+b, 2, api.ErrLex)
	}
}

// P6.1: a name has a letter or _ first, and at most MaxName bytes.
func TestNames(t *testing.T) {
	for _, s := range []string{"a", "z", "A", "Z", "_", "__", "_0", "a9", "Zz_19", strings.Repeat("x", api.MaxName)} {
		if l := texts(t, s, s); len(l) == 1 && l[0].Kind != api.TokName {
			t.Errorf("%q: kind %d", s, l[0].Kind)
		}
	}
	fails(t, strings.Repeat("x", api.MaxName+1), 0, api.ErrLong)
	fails(t, "ab "+strings.Repeat("_", api.MaxName+1)+"$", 3, api.ErrLong)
	fails(t, strings.Repeat("x", api.MaxName)+"\xc3\xa9", api.MaxName, api.ErrLex)
	fails(t, "$"+strings.Repeat("x", api.MaxName+1), 0, api.ErrLex)
}

// P6.1: a number is at most 2^63 - 1, is not followed by a letter or _, and has no 0 ahead of its digits; the size is what is found first.
func TestNumbers(t *testing.T) {
	for _, s := range []string{"0", "1", "9", "10", "9223372036854775807", "9223372036854775799"} {
		if l := texts(t, s, s); len(l) == 1 && l[0].Kind != api.TokNum {
			t.Errorf("%q: kind %d", s, l[0].Kind)
		}
	}
	texts(t, "1 a", "1", "a")
	texts(t, "0(", "0", "(")
	texts(t, "-0", "-", "0")
	for _, s := range []string{"9223372036854775808", "9223372036854775810", "10000000000000000000", "18446744073709551616", strings.Repeat("9", 400), "009223372036854775808", "9223372036854775808x", "9223372036854775808_1"} {
		fails(t, "x "+s, 2, api.ErrLong)
	}
	for _, s := range []string{"1a", "1z", "1A", "1Z", "1_", "0x10", "1e5", "1_000", "00", "01", "09", strings.Repeat("0", 400), "09223372036854775807", "9223372036854775807_", "1" + strings.Repeat("a", 40)} {
		fails(t, "x "+s, 2, api.ErrLex)
	}
	fails(t, "1\xc3\xa9", 1, api.ErrLex)
	fails(t, "1$", 1, api.ErrLex)
}

// P6.1: an operator is the longest that fits, and each other byte is no token; for all texts of up to three bytes that operators begin with, and some others.
func TestOperators(t *testing.T) {
	for _, o := range operators() {
		if l := texts(t, o, o); len(l) == 1 && l[0].Kind != api.TokOp {
			t.Errorf("%q: kind %d", o, l[0].Kind)
		}
	}
	bytes := strings.Split("=!<>&|+-*/%(){}[],;$ a1", "")
	for _, a := range bytes {
		for _, b := range bytes {
			for _, c := range bytes {
				check(t, a+b+c)
			}
		}
	}
	texts(t, "===!==<==&&&", "==", "=", "!=", "=", "<=", "=", "&&", "&")
	fails(t, "|", 0, api.ErrLex)
	fails(t, "a|||", 3, api.ErrLex)
	fails(t, "| |", 0, api.ErrLex)
}

// P6.1: each byte, alone, behind a token of each kind, and ahead of one.
func TestBytes(t *testing.T) {
	for _, b := range allBytes() {
		for _, s := range []string{"", " ", "a", "1", "=", "#", "#\n", "\n "} {
			check(t, s+b)
			check(t, b+s)
			check(t, s+b+s+b)
		}
	}
}

// P6.1: the first error from the left counts.
func TestFirstError(t *testing.T) {
	wrong := []string{"$", "01", "1a", "9223372036854775808", strings.Repeat("n", 33), "|", "\xff"}
	errs := []api.Errno{api.ErrLex, api.ErrLex, api.ErrLex, api.ErrLong, api.ErrLong, api.ErrLex, api.ErrLex}
	for i, a := range wrong {
		for _, b := range wrong {
			fails(t, "x = "+a+" "+b, 4, errs[i])
		}
	}
	fails(t, "a $", 2, api.ErrLex)
	fails(t, "x 9223372036854775808", 2, api.ErrLong)
}

// P6.1: texts of parts that join, meet and fail in many ways.
func TestMixed(t *testing.T) {
	r := &numbers{1}
	good := append(operators(), " ", "\n", "\t", "\r", "# c\n", "a", "b1", "_", "0", "7", "9223372036854775807", "while", "##$\n")
	bad := append(slices.Clone(good), "$", "#", "|", "\xc3\xa9", "9223372036854775808", strings.Repeat("n", 16), "00")
	bytes := allBytes()
	for range 20000 {
		check(t, r.text(good, 12))
		check(t, r.text(bad, 12))
		check(t, r.text(bytes, 12))
	}
}

// P6.2: the tokens are in the order of the text, nothing but blanks and comments lies between them, and other gaps make no other tokens.
func TestOrder(t *testing.T) {
	r := &numbers{2}
	words := append(operators(), "a", "b1", "_x", "0", "12", "null")
	gaps := []string{" ", "\n", "\t\r", "#\n", " # $ a 1 =\n", "\n\n  "}
	for range 3000 {
		var list []string
		s := ""
		for range r.next(20) {
			w := words[r.next(len(words))]
			list = append(list, w)
			s += gaps[r.next(len(gaps))] + w
		}
		s += gaps[r.next(len(gaps))]
		end := 0
		for _, x := range texts(t, s, list...) {
			if x.At < end || !gapsPattern.MatchString(s[end:x.At]) || !strings.HasPrefix(s[x.At:], x.Text) {
				t.Errorf("%q: %v", s, x)
			}
			end = x.At + len(x.Text)
		}
	}
}

// P6.1: tokens are new memory (rule 3): none of their texts is a part of the argument.
func TestNewMemory(t *testing.T) {
	s := strings.Repeat("name 12 <= ", 50)
	l, _, _ := Tokens(s)
	first := uintptr(unsafe.Pointer(unsafe.StringData(s)))
	for _, x := range l {
		p := uintptr(unsafe.Pointer(unsafe.StringData(x.Text)))
		if p >= first && p < first+uintptr(len(s)) {
			t.Fatalf("%v lies in the argument", x)
		}
	}
	again, _, _ := Tokens(s)
	if !slices.Equal(l, again) {
		t.Error("another answer for the same text")
	}
	clear(l)
	if l, _, _ = Tokens(s); !slices.Equal(l, again) {
		t.Error("an answer has changed with an earlier one")
	}
}

// P6.1: numbers around each power of 10, and those near 2^63, against the exact value.
func TestSizes(t *testing.T) {
	for n := range 25 {
		for _, d := range []string{"1", "8", "9", "91", "92", "93"} {
			check(t, d+strings.Repeat("0", n))
			check(t, d+strings.Repeat("9", n)+" x")
		}
	}
	for i := range uint64(2000) {
		check(t, strconv.FormatUint(math.MaxInt64-1000+i, 10))
	}
}
