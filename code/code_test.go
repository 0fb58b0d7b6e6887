package code

import (
	"bytes"
	"math"
	"math/big"
	"slices"
	"strings"
	"testing"

	"augur/api"
)

// numbers: each number of bytes at both its ends, and some between.
func numbers() []uint64 {
	out := []uint64{0, 1, 2, 63, 300, 1 << 32, 0x0123456789abcdef, math.MaxInt64}
	for bits := 7; bits < 64; bits += 7 {
		out = append(out, 1<<bits-1, 1<<bits, 1<<bits+1)
	}
	return append(out, 1<<63, math.MaxUint64-1, math.MaxUint64)
}

// signedNumbers: numbers near 0, at the ends of 32 and of 64 bits, and around each power of 2.
func signedNumbers() []int64 {
	out := []int64{0, 1, -1, 2, -2, math.MaxInt64, math.MaxInt64 - 1, math.MinInt64, math.MinInt64 + 1}
	for bits := range 63 {
		p := int64(1) << bits
		out = append(out, p-1, p, p+1, -p-1, -p, -p+1)
	}
	return out
}

// wantNum encodes as P2.1 says, by whole numbers of any size.
func wantNum(n *big.Int) []byte {
	var out []byte
	rest, group := new(big.Int).Set(n), new(big.Int)
	for {
		rest.DivMod(rest, big.NewInt(128), group)
		if rest.Sign() == 0 {
			return append(out, byte(group.Int64()))
		}
		out = append(out, byte(group.Int64())+128)
	}
}

// wantInt encodes as P2.1 says: 2n, or -2n - 1.
func wantInt(n int64) []byte {
	twice := new(big.Int).Mul(big.NewInt(n), big.NewInt(2))
	if n < 0 {
		twice.Neg(twice).Sub(twice, big.NewInt(1))
	}
	return wantNum(twice)
}

func iv(lo, hi int64) api.Ival { return api.Ival{Some: true, Lo: lo, Hi: hi} }

// chapterSummary is the chapter's example, chapterBytes its encoding.
func chapterSummary() api.Summary {
	return api.Summary{
		Alarms: []api.Alarm{{At: -1, Kind: 2}, {At: 300, Kind: 0}},
		Ends:   true,
		Ret:    iv(-2, 5),
		Mod:    []api.Named{{Name: "c", V: iv(0, 0)}, {Name: "dd"}},
	}
}

func chapterBytes() []byte {
	return []byte{2, 1, 4, 0xd8, 4, 0, 1, 1, 3, 10, 2, 1, 'c', 1, 0, 0, 2, 'd', 'd', 0}
}

func summaries() []api.Summary {
	long := api.Summary{}
	for i := range 300 {
		long.Alarms = append(long.Alarms, api.Alarm{At: i * 5, Kind: i % api.Alarms})
		long.Mod = append(long.Mod, api.Named{Name: strings.Repeat("n", i), V: iv(int64(-i), int64(i)<<40)})
	}
	return []api.Summary{
		{},
		chapterSummary(),
		{Ends: true},
		{Ret: iv(math.MinInt64, math.MaxInt64)},
		{Ret: iv(5, -5)},
		{Alarms: []api.Alarm{{At: math.MaxInt32, Kind: math.MinInt32}, {At: math.MinInt32, Kind: math.MaxInt32}}},
		{Mod: []api.Named{{}, {Name: "\xff\x00", V: iv(-1, 1)}, {Name: "", V: iv(0, 0)}}},
		{Alarms: []api.Alarm{{At: 3, Kind: 1}}, Mod: []api.Named{{Name: "b"}, {Name: "a"}, {Name: "a"}}},
		long,
	}
}

func sameSummary(a, b api.Summary) bool {
	return slices.Equal(a.Alarms, b.Alarms) && a.Ends == b.Ends && a.Ret == b.Ret && slices.Equal(a.Mod, b.Mod)
}

// readCall: a call of a Reader, and whether it answers zero.
type readCall struct {
	name string
	zero func(r *Reader) bool
}

func readCalls() []readCall {
	return []readCall{
		{"Num", func(r *Reader) bool { return r.Num() == 0 }},
		{"Int", func(r *Reader) bool { return r.Int() == 0 }},
		{"Text", func(r *Reader) bool { return r.Text() == "" }},
		{"Bool", func(r *Reader) bool { return !r.Bool() }},
		{"Summary", func(r *Reader) bool { return sameSummary(r.Summary(), api.Summary{}) }},
	}
}

func callOf(name string) readCall {
	for _, c := range readCalls() {
		if c.name == name {
			return c
		}
	}
	panic("no call " + name)
}

// fails tells of each call on b that does not fail as P2.2 says: it and all later calls answer zeros, and Done answers ErrCode.
func fails(t *testing.T, b []byte, names ...string) {
	t.Helper()
	for _, name := range names {
		r := NewReader(b)
		if !callOf(name).zero(r) {
			t.Errorf("P2.2: %s of %x does not answer zero", name, b)
		}
		if r.Done() != api.ErrCode {
			t.Errorf("P2.2: Done behind a failed %s of %x", name, b)
		}
		for range 2 {
			for _, later := range readCalls() {
				if !later.zero(r) {
					t.Errorf("P2.2: %s behind a failed %s of %x does not answer zero", later.name, name, b)
				}
			}
		}
		if r.Done() != api.ErrCode {
			t.Errorf("P2.2: Done at the end, behind a failed %s of %x", name, b)
		}
	}
}

// P2.1: a Writer starts without bytes, and calls without arguments add none.
func TestWriterEmpty(t *testing.T) {
	w := NewWriter()
	if b := w.Bytes(); len(b) != 0 {
		t.Errorf("a new Writer has %x", b)
	}
	w.Num()
	w.Int()
	w.Text()
	w.Bool()
	w.Summary()
	w.Summary([]api.Summary{}...)
	if b := w.Bytes(); len(b) != 0 {
		t.Errorf("calls without arguments wrote %x", b)
	}
	if b := NewWriter(); b == w {
		t.Error("NewWriter returns the same Writer twice")
	}
}

// P2.1: Num, known encodings and all lengths.
func TestWriteNum(t *testing.T) {
	for _, c := range []struct {
		n    uint64
		want []byte
	}{
		{0, []byte{0}},
		{1, []byte{1}},
		{127, []byte{0x7f}},
		{128, []byte{0x80, 1}},
		{300, []byte{0xac, 2}},
		{16383, []byte{0xff, 0x7f}},
		{16384, []byte{0x80, 0x80, 1}},
		{1 << 63, []byte{0x80, 0x80, 0x80, 0x80, 0x80, 0x80, 0x80, 0x80, 0x80, 1}},
		{math.MaxUint64, []byte{0xff, 0xff, 0xff, 0xff, 0xff, 0xff, 0xff, 0xff, 0xff, 1}},
	} {
		w := NewWriter()
		w.Num(c.n)
		if !bytes.Equal(w.Bytes(), c.want) {
			t.Errorf("Num of %d writes %x, want %x", c.n, w.Bytes(), c.want)
		}
	}
	for _, n := range numbers() {
		w := NewWriter()
		w.Num(n)
		if want := wantNum(new(big.Int).SetUint64(n)); !bytes.Equal(w.Bytes(), want) {
			t.Errorf("Num of %d writes %x, want %x", n, w.Bytes(), want)
		}
	}
}

// P2.1: Int, the chapter's numbers, and those at the ends of 64 bits.
func TestWriteInt(t *testing.T) {
	w := NewWriter()
	w.Int(0, -1, 1, -2, 2, -3, 3)
	if !bytes.Equal(w.Bytes(), []byte{0, 1, 2, 3, 4, 5, 6}) {
		t.Errorf("Int of the chapter's numbers writes %x", w.Bytes())
	}
	for _, c := range []struct {
		n    int64
		want []byte
	}{
		{63, []byte{0x7e}},
		{-64, []byte{0x7f}},
		{64, []byte{0x80, 1}},
		{-65, []byte{0x81, 1}},
		{math.MaxInt64, []byte{0xfe, 0xff, 0xff, 0xff, 0xff, 0xff, 0xff, 0xff, 0xff, 1}},
		{math.MinInt64, []byte{0xff, 0xff, 0xff, 0xff, 0xff, 0xff, 0xff, 0xff, 0xff, 1}},
	} {
		w := NewWriter()
		w.Int(c.n)
		if !bytes.Equal(w.Bytes(), c.want) {
			t.Errorf("Int of %d writes %x, want %x", c.n, w.Bytes(), c.want)
		}
	}
	for _, n := range signedNumbers() {
		w := NewWriter()
		w.Int(n)
		if want := wantInt(n); !bytes.Equal(w.Bytes(), want) {
			t.Errorf("Int of %d writes %x, want %x", n, w.Bytes(), want)
		}
	}
}

// P2.1: Text and Bool; the length of a text counts bytes, whether or not they are UTF-8.
func TestWriteTextAndBool(t *testing.T) {
	for _, c := range []struct {
		s    string
		want []byte
	}{
		{"", []byte{0}},
		{"a", []byte{1, 'a'}},
		{"\x00", []byte{1, 0}},
		{"\u20ac", []byte{3, 0xe2, 0x82, 0xac}},
		{"\xff\x80", []byte{2, 0xff, 0x80}},
		{strings.Repeat("x", 127), append([]byte{127}, strings.Repeat("x", 127)...)},
		{strings.Repeat("x", 128), append([]byte{128, 1}, strings.Repeat("x", 128)...)},
		{strings.Repeat("y", 70000), append([]byte{0xf0, 0xa2, 4}, strings.Repeat("y", 70000)...)},
	} {
		w := NewWriter()
		w.Text(c.s)
		if !bytes.Equal(w.Bytes(), c.want) {
			t.Errorf("Text of %d bytes writes %d bytes: %.20x", len(c.s), len(w.Bytes()), w.Bytes())
		}
	}
	w := NewWriter()
	w.Bool(false)
	w.Bool(true)
	if !bytes.Equal(w.Bytes(), []byte{0, 1}) {
		t.Errorf("Bool of false, of true writes %x", w.Bytes())
	}
}

// P2.1: Summary, the chapter's example and each part.
func TestWriteSummary(t *testing.T) {
	for _, c := range []struct {
		s    api.Summary
		want []byte
	}{
		{chapterSummary(), chapterBytes()},
		{api.Summary{}, []byte{0, 0, 0, 0}},
		{api.Summary{Alarms: []api.Alarm{}, Mod: []api.Named{}}, []byte{0, 0, 0, 0}},
		{api.Summary{Alarms: []api.Alarm{{At: 1, Kind: -3}}}, []byte{1, 2, 5, 0, 0, 0}},
		{api.Summary{Ends: true}, []byte{0, 1, 0, 0}},
		{api.Summary{Ret: iv(7, -7)}, []byte{0, 0, 1, 14, 13, 0}},
		{api.Summary{Ret: api.Ival{Lo: 7, Hi: 9}}, []byte{0, 0, 0, 0}},
		{api.Summary{Mod: []api.Named{{Name: "", V: iv(1, 2)}, {V: api.Ival{Lo: 1}}}}, []byte{0, 0, 0, 2, 0, 1, 2, 4, 0, 0}},
		{api.Summary{Alarms: []api.Alarm{{At: 1 << 31}}}, []byte{1, 0x80, 0x80, 0x80, 0x80, 0x10, 0, 0, 0, 0}},
	} {
		w := NewWriter()
		w.Summary(c.s)
		if !bytes.Equal(w.Bytes(), c.want) {
			t.Errorf("Summary of %v writes %x, want %x", c.s, w.Bytes(), c.want)
		}
	}
	w := NewWriter()
	w.Summary(api.Summary{Alarms: make([]api.Alarm, 128), Mod: make([]api.Named, 200)})
	b := w.Bytes()
	if len(b) != 2+256+1+1+2+400 || b[0] != 128 || b[1] != 1 || b[260] != 200 || b[261] != 1 {
		t.Errorf("Summary of 128 alarms and 200 cells writes %d bytes", len(b))
	}
}

// P2.1: all arguments, in order, behind what has been written.
func TestWriteOrder(t *testing.T) {
	w := NewWriter()
	w.Text("b", "", "a")
	w.Num(300, 0, 1)
	w.Bool(true, false, true)
	w.Int(1, -1)
	w.Summary(api.Summary{Ends: true}, api.Summary{Ret: iv(0, 1)})
	w.Num(5)
	want := []byte{1, 'b', 0, 1, 'a', 0xac, 2, 0, 1, 1, 0, 1, 2, 1, 0, 1, 0, 0, 0, 0, 1, 0, 2, 0, 5}
	if !bytes.Equal(w.Bytes(), want) {
		t.Errorf("a row of calls writes %x, want %x", w.Bytes(), want)
	}
}

// P2.1: Bytes hands out memory of its own, its spare room too.
func TestBytesCopied(t *testing.T) {
	w := NewWriter()
	w.Text("abc")
	first := w.Bytes()
	first[1] = 'z'
	if b := w.Bytes(); !bytes.Equal(b, []byte{3, 'a', 'b', 'c'}) {
		t.Errorf("Bytes returns %x behind a change of its result", b)
	}
	kept := w.Bytes()
	grown := append(kept, 77, 77)
	w.Num(1, 2)
	if !bytes.Equal(kept, []byte{3, 'a', 'b', 'c'}) || grown[4] != 77 || grown[5] != 77 {
		t.Error("a later call changes what Bytes returned")
	}
	if b := w.Bytes(); !bytes.Equal(b, []byte{3, 'a', 'b', 'c', 1, 2}) {
		t.Errorf("Bytes returns %x", b)
	}
}

// P2.1, P2.3: two Writers, or two Readers, have nothing in common.
func TestApart(t *testing.T) {
	v, w := NewWriter(), NewWriter()
	v.Num(1)
	w.Num(2)
	v.Num(3)
	if !bytes.Equal(v.Bytes(), []byte{1, 3}) || !bytes.Equal(w.Bytes(), []byte{2}) {
		t.Errorf("two Writers have %x and %x", v.Bytes(), w.Bytes())
	}
	b := []byte{4, 5}
	q, r := NewReader(b), NewReader(b)
	if q.Num() != 4 || q.Bool() || r.Num() != 4 || r.Num() != 5 || r.Done() != api.OK || q.Done() != api.ErrCode {
		t.Error("two Readers of the same bytes are not apart")
	}
}

// P2.2: Num, what it decodes.
func TestReadNum(t *testing.T) {
	for _, n := range numbers() {
		b := wantNum(new(big.Int).SetUint64(n))
		r := NewReader(append(b, 9))
		if got := r.Num(); got != n {
			t.Errorf("Num of %x = %d, want %d", b, got, n)
		}
		if r.Done() != api.ErrCode || r.Num() != 9 || r.Done() != api.OK {
			t.Errorf("Num of %x takes more or fewer bytes than those", b)
		}
	}
}

// badNums: bytes of which no number can be decoded.
func badNums() [][]byte {
	nine := bytes.Repeat([]byte{0xff}, 9)
	low := bytes.Repeat([]byte{0x80}, 9)
	out := [][]byte{
		{0x80, 0}, {0xff, 0}, {0x80, 0x80, 0}, {0xac, 0x82, 0}, // a last byte 0
		{0x80, 0, 1}, {0x80, 0, 0},
		append(bytes.Clone(nine), 0), append(bytes.Clone(low), 0),
		append(bytes.Clone(nine), 2), append(bytes.Clone(low), 2), // beyond 64 bits
		append(bytes.Clone(nine), 3), append(bytes.Clone(low), 3),
		append(bytes.Clone(nine), 0x40), append(bytes.Clone(low), 0x7f),
		append(bytes.Clone(nine), 0x81, 1), append(bytes.Clone(low), 0x80, 1), // beyond ten bytes
		append(bytes.Clone(nine), 0x81, 0), append(bytes.Clone(low), 0x80, 0),
		append(bytes.Clone(nine), 0xff, 0xff, 0xff, 1),
		bytes.Repeat([]byte{0x80}, 40), bytes.Repeat([]byte{0xff}, 40),
	}
	for n := range 11 { // that end too soon
		out = append(out, bytes.Repeat([]byte{0x80}, n), bytes.Repeat([]byte{0x81}, n), bytes.Repeat([]byte{0xff}, n))
	}
	return out
}

// P2.2: Num fails at and beyond 64 bits and ten bytes, at the end of the bytes, and where the last byte is 0. So does what begins with a number.
func TestReadNumFails(t *testing.T) {
	for _, b := range badNums() {
		fails(t, b, "Num", "Int", "Text", "Summary")
		// More bytes do not help one that fails by what it has.
		if len(b) > 10 || len(b) > 0 && b[len(b)-1] < 0x80 {
			fails(t, append(bytes.Clone(b), 1, 1, 1, 1, 0, 0, 0, 0, 0, 0), "Num", "Int", "Text", "Summary")
		}
	}
	if r := NewReader([]byte{0xff, 0xff, 0xff, 0xff, 0xff, 0xff, 0xff, 0xff, 0xff, 1}); r.Num() != math.MaxUint64 || r.Done() != api.OK {
		t.Error("P2.2: the greatest number of ten bytes")
	}
}

// P2.2: Int, what it decodes.
func TestReadInt(t *testing.T) {
	r := NewReader([]byte{0, 1, 2, 3, 4, 5, 6})
	for _, want := range []int64{0, -1, 1, -2, 2, -3, 3} {
		if got := r.Int(); got != want {
			t.Errorf("Int = %d, want %d", got, want)
		}
	}
	if r.Done() != api.OK {
		t.Error("Int leaves bytes")
	}
	for _, n := range signedNumbers() {
		b := wantInt(n)
		r := NewReader(append(b, 2))
		if got := r.Int(); got != n {
			t.Errorf("Int of %x = %d, want %d", b, got, n)
		}
		if r.Int() != 1 || r.Done() != api.OK {
			t.Errorf("Int of %x takes more or fewer bytes than those", b)
		}
	}
}

// P2.2: Text, at and beyond the bytes that are left.
func TestReadText(t *testing.T) {
	for _, s := range []string{"", "a", "\x00", "\xff\xfe", "\u20ac", strings.Repeat("x", 127), strings.Repeat("x", 128), strings.Repeat("z", 70000)} {
		b := append(wantNum(big.NewInt(int64(len(s)))), s...)
		r := NewReader(b)
		if got := r.Text(); got != s || r.Done() != api.OK {
			t.Errorf("Text of %d bytes returns %d", len(s), len(got))
		}
		r = NewReader(append(bytes.Clone(b), 1, 'q'))
		if got := r.Text(); got != s || r.Text() != "q" || r.Done() != api.OK {
			t.Errorf("Text of %d bytes, and bytes behind it, returns %d", len(s), len(got))
		}
		if len(s) > 0 {
			fails(t, b[:len(b)-1], "Text")
		}
	}
	fails(t, []byte{2, 'a'}, "Text")
	fails(t, []byte{1}, "Text")
	fails(t, []byte{0x7f, 'a', 'b'}, "Text")
	fails(t, append([]byte{0x80, 1}, bytes.Repeat([]byte{'x'}, 127)...), "Text")
}

// lengths: lengths and counts that no bytes can follow, some of them greater than an int, or less than 0 as one.
func lengths() []uint64 {
	return []uint64{1 << 20, math.MaxInt32, 1 << 31, math.MaxUint32, 1 << 32, 1<<32 + 1, 1 << 40, math.MaxInt64, 1 << 63, 1<<63 + 1, math.MaxUint64 - 1, math.MaxUint64}
}

// P2.2: lengths and counts far beyond the bytes that are left.
func TestReadLengths(t *testing.T) {
	room := bytes.Repeat([]byte{0}, 100)
	for _, n := range lengths() {
		b := wantNum(new(big.Int).SetUint64(n))
		fails(t, append(bytes.Clone(b), room...), "Text", "Summary")
		mod := append([]byte{0, 1, 0}, b...)
		fails(t, append(mod, room...), "Summary")
		name := append([]byte{0, 1, 0, 1}, b...)
		fails(t, append(name, room...), "Summary")
	}
}

// P2.2: Bool, each byte.
func TestReadBool(t *testing.T) {
	for b := range 256 {
		if b > 1 {
			fails(t, []byte{byte(b)}, "Bool")
			fails(t, []byte{byte(b), 1, 1}, "Bool")
			continue
		}
		r := NewReader([]byte{byte(b), 5})
		if r.Bool() != (b == 1) || r.Num() != 5 || r.Done() != api.OK {
			t.Errorf("Bool of %d", b)
		}
	}
	fails(t, nil, "Bool")
	fails(t, []byte{}, "Num", "Int", "Text", "Bool", "Summary")
}

// P2.2: Summary of the chapter's example, of each proper prefix, and with bytes behind it.
func TestReadSummary(t *testing.T) {
	r := NewReader(chapterBytes())
	if got := r.Summary(); !sameSummary(got, chapterSummary()) || r.Done() != api.OK {
		t.Errorf("Summary = %v, want %v", got, chapterSummary())
	}
	r = NewReader(append(chapterBytes(), 8))
	if got := r.Summary(); !sameSummary(got, chapterSummary()) || r.Done() != api.ErrCode || r.Num() != 8 || r.Done() != api.OK {
		t.Errorf("Summary with a byte behind it = %v", got)
	}
	for _, s := range summaries() {
		w := NewWriter()
		w.Summary(s)
		b := w.Bytes()
		for i := range min(len(b), 3000) {
			r := NewReader(b[:i])
			if got := r.Summary(); !sameSummary(got, api.Summary{}) || r.Done() != api.ErrCode || r.Num() != 0 {
				t.Fatalf("P2.2: Summary of %d bytes of %d = %v", i, len(b), got)
			}
		}
	}
	for i := range chapterBytes() {
		fails(t, chapterBytes()[:i], "Summary")
	}
}

// P2.2: counts that are greater than the bytes left by one, and not.
func TestReadSummaryCounts(t *testing.T) {
	for _, b := range [][]byte{
		{1}, {4, 0, 0, 0}, {3, 0, 0, 0, 0, 0}, {0, 0, 0, 1}, {0, 0, 0, 2, 0}, {0, 0, 0, 2, 0, 0}, {0, 0, 0, 2, 0, 0, 0}, {0, 0, 0, 4, 0, 0, 0},
		{2, 0, 0, 0, 0}, {1, 0, 0, 0, 0}, {0, 0, 0}, {0, 0}, {0},
	} {
		fails(t, b, "Summary")
	}
	r := NewReader([]byte{1, 0, 0, 0, 0, 1, 0, 0})
	if got := r.Summary(); !sameSummary(got, api.Summary{Alarms: []api.Alarm{{}}, Mod: []api.Named{{}}}) || r.Done() != api.OK {
		t.Errorf("Summary of an alarm and a cell = %v", got)
	}
}

// P2.2: a part that fails makes the whole fail, and what was decoded of it is not answered.
func TestReadSummaryParts(t *testing.T) {
	for _, c := range []struct {
		at    int
		bytes []byte
	}{
		{0, []byte{0x80, 0}}, {1, []byte{0x80, 0}}, {2, []byte{0x84, 0}}, {5, []byte{0x80, 0}}, {10, []byte{0x82, 0}}, {11, []byte{0x81, 0}}, {16, []byte{0x82, 0}},
		{6, []byte{2}}, {7, []byte{2}}, {13, []byte{2}}, {13, []byte{255}}, {19, []byte{2}},
		{8, []byte{0x83, 0}}, {9, []byte{0x8a, 0}}, {14, []byte{0x80, 0}}, {15, []byte{0x80, 0}},
		{16, []byte{4}}, {10, []byte{10}}, {10, []byte{11}}, {0, []byte{19}}, {0, []byte{20}}, {10, []byte{3}},
	} {
		b := slices.Replace(chapterBytes(), c.at, c.at+1, c.bytes...)
		fails(t, b, "Summary")
	}
	// Each number of it may be too long.
	long := []byte{0xff, 0xff, 0xff, 0xff, 0xff, 0xff, 0xff, 0xff, 0xff, 2}
	for _, at := range []int{0, 1, 2, 5, 8, 9, 10, 11, 14, 15, 16} {
		fails(t, slices.Replace(chapterBytes(), at, at+1, long...), "Summary")
	}
}

// P2.2: At and Kind at and beyond 32 bits.
func TestReadSummaryRange(t *testing.T) {
	inside := []int{math.MinInt32, math.MinInt32 + 1, -1, 0, 1, math.MaxInt32 - 1, math.MaxInt32}
	outside := []int{math.MinInt32 - 1, math.MaxInt32 + 1, math.MinInt32 - 2, math.MaxUint32, 1 << 32, -1 << 32, 1<<32 + 5, -1<<40 + 3, math.MaxInt64, math.MinInt64}
	row := func(n int, kind bool, behind bool) api.Summary {
		a := api.Alarm{At: n, Kind: 1}
		if kind {
			a = api.Alarm{At: 1, Kind: n}
		}
		s := api.Summary{Alarms: []api.Alarm{a}, Ends: true}
		if behind {
			s.Alarms = append([]api.Alarm{{At: 1, Kind: 2}, {At: 2, Kind: 2}}, a)
		}
		return s
	}
	for _, kind := range []bool{false, true} {
		for _, behind := range []bool{false, true} {
			for _, n := range inside {
				s := row(n, kind, behind)
				w := NewWriter()
				w.Summary(s)
				r := NewReader(w.Bytes())
				if got := r.Summary(); !sameSummary(got, s) || r.Done() != api.OK {
					t.Errorf("Summary of %v = %v", s, got)
				}
			}
			for _, n := range outside {
				w := NewWriter()
				w.Summary(row(n, kind, behind))
				w.Num(7)
				fails(t, w.Bytes(), "Summary")
			}
		}
	}
	// Intervals have all 64 bits.
	w := NewWriter()
	s := api.Summary{Ret: iv(math.MinInt64, math.MaxInt64), Mod: []api.Named{{Name: "c", V: iv(math.MaxInt64, math.MinInt64)}}}
	w.Summary(s)
	if got := NewReader(w.Bytes()).Summary(); !sameSummary(got, s) {
		t.Errorf("Summary of %v = %v", s, got)
	}
}

// P2.2: each call behind each one that failed, with bytes left that each of them could decode.
func TestReadBehindFailed(t *testing.T) {
	good := []byte{1, 1, 1, 1, 1, 1, 1, 1}
	for _, c := range []struct {
		name string
		b    []byte
	}{
		{"Num", []byte{0x80, 0}}, {"Int", []byte{0x80, 0}}, {"Text", []byte{0x80, 0}}, {"Text", []byte{100}}, {"Bool", []byte{2}}, {"Summary", []byte{100}}, {"Summary", []byte{0, 2}},
	} {
		for _, later := range readCalls() {
			r := NewReader(append(bytes.Clone(c.b), good...))
			if !callOf(c.name).zero(r) || !later.zero(r) || !later.zero(r) || r.Done() != api.ErrCode {
				t.Errorf("P2.2: %s behind a failed %s of %x", later.name, c.name, c.b)
			}
		}
	}
	// What was decoded ahead of the failure stays answered, and the end of the bytes is no way out.
	r := NewReader([]byte{5, 2})
	if r.Num() != 5 || r.Bool() || r.Num() != 0 || r.Num() != 0 || r.Done() != api.ErrCode {
		t.Error("P2.2: a failure behind a call that did not fail")
	}
	r = NewReader([]byte{5})
	if r.Num() != 5 || r.Done() != api.OK || r.Num() != 0 || r.Done() != api.ErrCode {
		t.Error("P2.2: a call at the end of the bytes")
	}
}

// P2.2: Done, which changes nothing.
func TestDone(t *testing.T) {
	r := NewReader([]byte{7, 8})
	if r.Done() != api.ErrCode || r.Num() != 7 || r.Done() != api.ErrCode || r.Done() != api.ErrCode || r.Num() != 8 || r.Done() != api.OK || r.Done() != api.OK {
		t.Error("P2.2: Done of two numbers")
	}
	if NewReader(nil).Done() != api.OK || NewReader([]byte{}).Done() != api.OK {
		t.Error("P2.2: Done without bytes")
	}
	r = NewReader([]byte{2})
	if r.Bool() || r.Done() != api.ErrCode || r.Done() != api.ErrCode {
		t.Error("P2.2: Done behind a failed call, no byte left")
	}
}

// P2.3: what was written is decoded again, in a row of calls of all kinds.
func TestThereAndBack(t *testing.T) {
	w := NewWriter()
	w.Num(numbers()...)
	w.Int(signedNumbers()...)
	w.Text("a", "", strings.Repeat("\x80", 200))
	w.Bool(true, false)
	w.Summary(summaries()...)
	r := NewReader(w.Bytes())
	for _, want := range numbers() {
		if got := r.Num(); got != want {
			t.Fatalf("P2.3: Num = %d, want %d", got, want)
		}
	}
	for _, want := range signedNumbers() {
		if got := r.Int(); got != want {
			t.Fatalf("P2.3: Int = %d, want %d", got, want)
		}
	}
	if r.Text() != "a" || r.Text() != "" || r.Text() != strings.Repeat("\x80", 200) || !r.Bool() || r.Bool() {
		t.Fatal("P2.3: Text, Bool")
	}
	for _, want := range summaries() {
		if got := r.Summary(); !sameSummary(got, want) {
			t.Fatalf("P2.3: Summary = %v, want %v", got, want)
		}
	}
	if r.Done() != api.OK {
		t.Error("P2.3: bytes are left over")
	}
}

// P2.3: every value has one encoding: of all strings of one and of two bytes, and of longer ones of few values, those that can be decoded are what their values are encoded as.
func TestOneEncoding(t *testing.T) {
	check := func(b []byte) {
		for _, c := range []struct {
			name  string
			again func(r *Reader, w *Writer)
		}{
			{"Num", func(r *Reader, w *Writer) { w.Num(r.Num()) }},
			{"Int", func(r *Reader, w *Writer) { w.Int(r.Int()) }},
			{"Text", func(r *Reader, w *Writer) { w.Text(r.Text()) }},
			{"Bool", func(r *Reader, w *Writer) { w.Bool(r.Bool()) }},
			{"Summary", func(r *Reader, w *Writer) { w.Summary(r.Summary()) }},
		} {
			r, w := NewReader(b), NewWriter()
			c.again(r, w)
			if r.Done() == api.OK && !bytes.Equal(w.Bytes(), b) {
				t.Fatalf("P2.3: %s decodes %x, and encodes it as %x", c.name, b, w.Bytes())
			}
		}
	}
	for i := range 1 << 16 {
		check([]byte{byte(i)})
		check([]byte{byte(i >> 8), byte(i)})
	}
	few := []byte{0, 1, 2, 0x80, 0x81}
	var all func(b []byte, n int)
	all = func(b []byte, n int) {
		check(b)
		if n > 0 {
			for _, v := range few {
				all(append(bytes.Clone(b), v), n-1)
			}
		}
	}
	all(nil, 7)
	for at := range chapterBytes() { // and the example with each byte changed
		for v := range 256 {
			b := chapterBytes()
			b[at] = byte(v)
			check(b)
		}
	}
	for _, b := range badNums() {
		check(b)
	}
}

// P2.2, DOC.md's rules 1 and 11: wild bytes end in values or in zeros, and no count claims memory that its bytes do not fill.
func TestWild(t *testing.T) {
	x := uint32(1)
	next := func(n int) int {
		x = x*1664525 + 1013904223
		return int(x>>8) % n
	}
	calls := readCalls()
	for range 20000 {
		b := make([]byte, next(40))
		for i := range b {
			b[i] = byte(next(256))
			if next(2) == 0 {
				b[i] = byte(next(3))
			}
		}
		r := NewReader(b)
		for range 6 {
			if s := r.Summary(); len(s.Alarms)*2+len(s.Mod)*2 > len(b) {
				t.Fatalf("Summary of %x = %v", b, s)
			}
			calls[next(len(calls))].zero(r)
		}
	}
}

// DOC.md, rule 3: arguments are neither changed nor kept, and results are their own memory.
func TestArgumentsStay(t *testing.T) {
	back := append(chapterBytes(), 99, 99)
	b := back[:len(back)-2]
	r := NewReader(b)
	for i := range back {
		back[i] = 2
	}
	got := r.Summary()
	if !sameSummary(got, chapterSummary()) || r.Done() != api.OK {
		t.Errorf("a Reader keeps its argument: %v", got)
	}
	back = append(chapterBytes(), 99)
	copied := bytes.Clone(back)
	if q := NewReader(back[:20]); !sameSummary(q.Summary(), chapterSummary()) || !bytes.Equal(back, copied) {
		t.Error("a Reader changes its argument")
	}
	s := chapterSummary()
	w := NewWriter()
	list := []api.Summary{s}
	w.Summary(list...)
	if !sameSummary(list[0], chapterSummary()) {
		t.Error("Summary changes its argument")
	}
	s.Alarms[0].At, s.Mod[0].Name = 7, "x"
	if !bytes.Equal(w.Bytes(), chapterBytes()) {
		t.Error("a Writer keeps its argument")
	}
	// Two answers of one Reader do not share their lists.
	w = NewWriter()
	w.Summary(chapterSummary(), chapterSummary())
	r = NewReader(w.Bytes())
	one := r.Summary()
	one.Alarms, one.Mod = append(one.Alarms[:1], api.Alarm{At: 9}), append(one.Mod[:1], api.Named{Name: "q"})
	if two := r.Summary(); !sameSummary(two, chapterSummary()) {
		t.Errorf("two summaries share memory: %v", two)
	}
}
