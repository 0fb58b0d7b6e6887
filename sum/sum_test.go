package sum

import (
	"bytes"
	"hash/crc32"
	"hash/fnv"
	"strings"
	"testing"
)

// sample returns n bytes of a fixed row that has every value of a byte.
func sample(n int) []byte {
	b := make([]byte, n)
	x := uint32(1)
	for i := range b {
		x = x*1664525 + 1013904223
		b[i] = byte(x >> 24)
	}
	return b
}

// wantPrint hashes as P1.1 says, with the library's FNV-1a.
func wantPrint(parts ...string) uint64 {
	h := fnv.New64a()
	for _, p := range parts {
		n := len(p)
		h.Write([]byte{byte(n >> 24), byte(n >> 16), byte(n >> 8), byte(n)})
		h.Write([]byte(p))
	}
	return h.Sum64()
}

// P1.1: known values of CRC-32, those of the document among them.
func TestCrcKnown(t *testing.T) {
	for _, c := range []struct {
		text string
		want uint32
	}{
		{"", 0},
		{"123456789", 0xcbf43926},
		{"a", 0xe8b7be43},
		{"abc", 0x352441c2},
		{"\x00", 0xd202ef8d},
		{"\xff\xff\xff\xff", 0xffffffff},
		{"The quick brown fox jumps over the lazy dog", 0x414fa339},
	} {
		if got := Crc([]byte(c.text)); got != c.want {
			t.Errorf("Crc(%q) = %08x, want %08x", c.text, got, c.want)
		}
	}
}

// P1.1: no parts at all, nil parts, empty parts.
func TestCrcEmpty(t *testing.T) {
	if got := Crc(); got != 0 {
		t.Errorf("Crc() = %08x", got)
	}
	if got := Crc(nil); got != 0 {
		t.Errorf("Crc(nil) = %08x", got)
	}
	if got := Crc([][]byte{}...); got != 0 {
		t.Errorf("Crc of an empty list = %08x", got)
	}
	if got := Crc(nil, []byte{}, nil); got != 0 {
		t.Errorf("Crc of empty parts = %08x", got)
	}
}

// P1.1: every single byte, and every length up to some hundreds, against the library.
func TestCrcAgainstLibrary(t *testing.T) {
	for b := range 256 {
		one := []byte{byte(b)}
		if got, want := Crc(one), crc32.ChecksumIEEE(one); got != want {
			t.Errorf("Crc of byte %02x = %08x, want %08x", b, got, want)
		}
	}
	all := sample(1 << 20)
	for n := range 600 {
		if got, want := Crc(all[:n]), crc32.ChecksumIEEE(all[:n]); got != want {
			t.Errorf("Crc of %d bytes = %08x, want %08x", n, got, want)
		}
	}
	if got, want := Crc(all), crc32.ChecksumIEEE(all); got != want {
		t.Errorf("Crc of %d bytes = %08x, want %08x", len(all), got, want)
	}
}

// P1.2: Crc does not depend on the division into parts.
func TestCrcDivision(t *testing.T) {
	all := sample(40)
	want := Crc(all)
	for i := range len(all) + 1 {
		for j := i; j <= len(all); j++ {
			if got := Crc(all[:i], all[i:j], all[j:]); got != want {
				t.Fatalf("Crc divided at %d and %d = %08x, want %08x", i, j, got, want)
			}
		}
	}
	var single [][]byte
	for i := range all {
		single = append(single, all[i:i+1], nil, []byte{})
	}
	if got := Crc(single...); got != want {
		t.Errorf("Crc of single bytes and empty parts = %08x, want %08x", got, want)
	}
}

// The order of the parts is that of the concatenation (P1.1).
func TestCrcOrder(t *testing.T) {
	if Crc([]byte("a"), []byte("b")) == Crc([]byte("b"), []byte("a")) {
		t.Error("Crc does not depend on the order of the parts")
	}
}

// P1.1: known values of Print: the start, and a length and bytes worked out apart from the library.
func TestPrintKnown(t *testing.T) {
	const prime = 0x100000001b3
	start := uint64(0xcbf29ce484222325)
	if got := Print(); got != start {
		t.Errorf("Print() = %016x", got)
	}
	if got := Print([]string{}...); got != start {
		t.Errorf("Print of an empty list = %016x", got)
	}
	empty := start * prime * prime * prime * prime // the four zeros of the length
	if got := Print(""); got != empty {
		t.Errorf("Print(\"\") = %016x, want %016x", got, empty)
	}
	one := ((start*prime*prime*prime^1)*prime ^ 'a') * prime
	if got := Print("a"); got != one {
		t.Errorf("Print(\"a\") = %016x, want %016x", got, one)
	}
}

// P1.1: each byte of a length counts, in its place.
func TestPrintLengths(t *testing.T) {
	for _, n := range []int{0, 1, 2, 255, 256, 257, 65535, 65536, 70000, 1 << 24, 1<<24 + 1} {
		text := strings.Repeat("x", n)
		if got, want := Print(text), wantPrint(text); got != want {
			t.Errorf("Print of %d bytes = %016x, want %016x", n, got, want)
		}
	}
}

// P1.1: bytes are taken as they are, whether or not they are UTF-8.
func TestPrintBytes(t *testing.T) {
	for b := range 256 {
		text := string([]byte{byte(b)})
		if got, want := Print(text), wantPrint(text); got != want {
			t.Errorf("Print of byte %02x = %016x, want %016x", b, got, want)
		}
	}
	for _, text := range []string{"\u00e9", "\u20ac\U0001f600", "\xff\xfe\x80", "a\x00b", "\xed\xa0\x80"} {
		if got, want := Print(text), wantPrint(text); got != want {
			t.Errorf("Print(%q) = %016x, want %016x", text, got, want)
		}
	}
}

// P1.1: several parts, in order.
func TestPrintParts(t *testing.T) {
	all := string(sample(300))
	for i := range len(all) + 1 {
		if got, want := Print(all[:i], all[i:]), wantPrint(all[:i], all[i:]); got != want {
			t.Fatalf("Print divided at %d = %016x, want %016x", i, got, want)
		}
	}
	if got, want := Print("f", "", "g", "", ""), wantPrint("f", "", "g", "", ""); got != want {
		t.Errorf("Print with empty parts = %016x, want %016x", got, want)
	}
}

// P1.2: Print depends on the division into parts, also where a part looks like a length and bytes.
func TestPrintDivision(t *testing.T) {
	seen := map[uint64]string{}
	for _, parts := range [][]string{
		{}, {""}, {"", ""}, {"", "", ""},
		{"ab"}, {"a", "b"}, {"", "ab"}, {"ab", ""}, {"a", "", "b"}, {"b", "a"},
		{"a\x00\x00\x00\x01b"}, {"\x00\x00\x00\x01a\x00\x00\x00\x01b"},
		{"\x00\x00\x00\x00"}, {"\x00"}, {"\x00", "\x00"}, {"\x00\x00"},
	} {
		name := strings.Join(parts, "|")
		h := Print(parts...)
		if other, ok := seen[h]; ok {
			t.Errorf("Print of %q and of %q are the same", name, other)
		}
		seen[h] = name
	}
	all := string(sample(60))
	splits := map[uint64]int{}
	for i := range len(all) + 1 {
		h := Print(all[:i], all[i:])
		if j, ok := splits[h]; ok {
			t.Errorf("Print divided at %d and at %d are the same", i, j)
		}
		splits[h] = i
	}
}

// DOC.md, rules 3 and 8: arguments stay as they are, and the same arguments get the same results.
func TestArgumentsStay(t *testing.T) {
	back := sample(64)
	copied := bytes.Clone(back)
	parts := [][]byte{back[:10], back[10:20:40], nil, back[30:50]}
	texts := []string{"a", "", "b"}
	c, h := Crc(parts...), Print(texts...)
	if !bytes.Equal(back, copied) || len(parts) != 4 || len(parts[1]) != 10 || parts[2] != nil {
		t.Error("Crc changed its arguments")
	}
	if texts[0] != "a" || texts[1] != "" || texts[2] != "b" {
		t.Error("Print changed its arguments")
	}
	if Crc(parts...) != c || Print(texts...) != h {
		t.Error("a second call answers something else")
	}
}
