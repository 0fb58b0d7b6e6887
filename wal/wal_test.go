package wal

import (
	"bytes"
	"math"
	"slices"
	"testing"

	"augur/api"
	"augur/disk"
)

// numbers is a fixed row of numbers.
type numbers struct{ x uint64 }

func (r *numbers) next(n int) int {
	r.x = r.x*6364136223846793005 + 1442695040888963407
	return int(r.x >> 33 % uint64(n))
}

func (r *numbers) bits() uint64 {
	return uint64(r.next(1<<31))<<33 ^ uint64(r.next(1<<31))<<8 ^ uint64(r.next(256))
}

func (r *numbers) bytes(n int) []byte {
	b := make([]byte, n)
	for i := range b {
		b[i] = byte(r.next(256))
	}
	return b
}

// batch returns fewer than most records of up to long bytes.
func (r *numbers) batch(most, long int) [][]byte {
	var b [][]byte
	for range r.next(most) {
		b = append(b, r.bytes(r.next(long+1)))
	}
	return b
}

// texts returns records.
func texts(s ...string) [][]byte {
	var b [][]byte
	for _, v := range s {
		b = append(b, []byte(v))
	}
	return b
}

// join returns the records of both lists.
func join(a, b [][]byte) [][]byte { return slices.Concat(a, b) }

func same(a, b [][]byte) bool { return slices.EqualFunc(a, b, bytes.Equal) }

// must opens the log of a disk that has power.
func must(t *testing.T, d *disk.Disk) (*Log, [][]byte) {
	t.Helper()
	l, records, err := Open(d)
	if err != api.OK || l == nil {
		t.Fatalf("Open: %v", err)
	}
	if l.Count() != len(records) {
		t.Fatalf("Open: %d records, Count %d", len(records), l.Count())
	}
	return l, records
}

// gives tells of a call that does not return want.
func gives(t *testing.T, what string, err, want api.Errno) {
	t.Helper()
	if err != want {
		t.Fatalf("%s: %v, want %v", what, err, want)
	}
}

// holds tells of a disk whose log has other records. It opens a copy, so that the disk is as it was.
func holds(t *testing.T, what string, d *disk.Disk, want [][]byte) {
	t.Helper()
	if _, got := must(t, d.Copy()); !same(got, want) {
		t.Fatalf("%s: %d records %.60q, want %d: %.60q", what, len(got), got, len(want), want)
	}
}

// refuses tells of an Open that does not return want and nothing else.
func refuses(t *testing.T, what string, d *disk.Disk, want api.Errno) {
	t.Helper()
	if l, records, err := Open(d); err != want || l != nil || len(records) != 0 {
		t.Errorf("%s: Open: %v, %d records, %v, want %v", what, l, len(records), err, want)
	}
}

// image returns all bytes of a disk.
func image(t *testing.T, d *disk.Disk) [][]byte {
	t.Helper()
	var b [][]byte
	for i := range d.Sectors() {
		s, err := d.Read(i)
		gives(t, "Read", err, api.OK)
		b = append(b, s)
	}
	return b
}

// filled returns a disk of these sectors.
func filled(t *testing.T, b [][]byte) *disk.Disk {
	t.Helper()
	d := disk.New(len(b), len(b[0]))
	for i, s := range b {
		gives(t, "Write", d.Write(i, s), api.OK)
	}
	gives(t, "Flush", d.Flush(), api.OK)
	return d
}

// P4.1: a disk with too few or too small sectors has no log; this comes before errors of the disk, and needs none of its power.
func TestOpenForm(t *testing.T) {
	for _, c := range [][2]int{{1, 64}, {15, 128}, {15, 512}, {15, 4096}, {16, 127}, {16, 64}, {4096, 127}, {4096, 64}} {
		d := disk.New(c[0], c[1])
		refuses(t, "too small", d, api.ErrForm)
		d.Cut(0)
		refuses(t, "too small", d, api.ErrForm)
		if d.Dead() {
			t.Errorf("%v: Open has used the power", c)
		}
		d.Flush()
		refuses(t, "too small, no power", d, api.ErrForm)
	}
	for _, c := range [][2]int{{16, 128}, {17, 128}, {16, 129}, {100, 333}, {4096, 128}, {16, 4096}, {4096, 4096}} {
		l, records := must(t, disk.New(c[0], c[1]))
		if len(records) != 0 || l.Count() != 0 {
			t.Errorf("%v: %d records, Count %d", c, len(records), l.Count())
		}
	}
}

// P4.1: Open returns the disk's error.
func TestOpenDead(t *testing.T) {
	d := disk.New(20, 128)
	l, _ := must(t, d)
	gives(t, "Commit", l.Commit(texts("a")...), api.OK)
	d.Cut(0)
	d.Flush()
	refuses(t, "no power", d, api.ErrDiskDead)
	d.Crash(0, -1, 0)
	holds(t, "power again", d, texts("a"))
}

// P4.1: other bytes are an empty log, and one that can be used, whatever they are.
func TestOpenOther(t *testing.T) {
	r := &numbers{1}
	for i := range 300 {
		b := make([][]byte, 16+r.next(10))
		for j := range b {
			switch i % 4 {
			case 0:
				b[j] = r.bytes(128)
			case 1:
				b[j] = bytes.Repeat([]byte{byte(i)}, 128)
			case 2:
				b[j] = bytes.Repeat([]byte{byte(r.next(3))}, 128)
			default:
				b[j] = bytes.Repeat(r.bytes(2), 64)
			}
		}
		d := filled(t, b)
		l, records := must(t, d)
		if len(records) != 0 {
			t.Fatalf("other bytes: %d records", len(records))
		}
		want := r.batch(4, 50)
		if i%3 == 0 {
			gives(t, "Reset", l.Reset(want...), api.OK)
		} else {
			gives(t, "Commit", l.Commit(want...), api.OK)
		}
		d.Crash(0, -1, 0)
		holds(t, "on other bytes", d, want)
	}
}

// P4.1: a log of which some sectors are lost or other bytes is opened, too, and what is added then is there.
func TestOpenDamaged(t *testing.T) {
	r := &numbers{2}
	for range 2000 {
		d := disk.New(16+r.next(30), 128)
		l, _ := must(t, d)
		for range 1 + r.next(5) {
			if r.next(4) == 0 {
				l.Reset(r.batch(4, 60)...)
			} else {
				l.Commit(r.batch(4, 200)...)
			}
		}
		b := image(t, d)
		for range 1 + r.next(3) {
			s := b[r.next(min(len(b), 1+r.next(len(b))))]
			switch r.next(3) {
			case 0:
				s[r.next(min(len(s), 16))] ^= byte(1 + r.next(255))
			case 1:
				copy(s[r.next(len(s)):], b[r.next(len(b))])
			default:
				copy(s, r.bytes(1+r.next(20)))
			}
		}
		d = filled(t, b)
		l, was := must(t, d)
		add := r.batch(3, 20)
		switch err := l.Commit(add...); err {
		case api.OK:
			holds(t, "added behind damage", d, join(was, add))
		case api.ErrFull:
			holds(t, "full behind damage", d, was)
		default:
			t.Fatalf("Commit: %v", err)
		}
	}
}

// P4.1: a length on the disk that none of the records can have claims no memory.
func TestOpenLengths(t *testing.T) {
	d := disk.New(16, 128)
	l, _ := must(t, d)
	gives(t, "Commit", l.Commit(texts("abc", "d")...), api.OK)
	b := image(t, d)
	for i := range b {
		for j := range 32 {
			for _, x := range []byte{0x7f, 0x80, 0xff} {
				c := slices.Clone(b)
				c[i] = slices.Clone(b[i])
				copy(c[i][j:], bytes.Repeat([]byte{x}, 4))
				must(t, filled(t, c))
			}
		}
	}
}

// P4.1: the chapter's example; Commit appends, in order.
func TestCommit(t *testing.T) {
	d := disk.New(64, 256)
	l, _ := must(t, d)
	gives(t, "Commit", l.Commit(texts("abc", "", "d")...), api.OK)
	holds(t, "Commit", d, texts("abc", "", "d"))
	if l.Count() != 3 {
		t.Errorf("Count %d, want 3", l.Count())
	}
	gives(t, "Commit", l.Commit(texts("d")...), api.OK)
	gives(t, "Commit", l.Commit(nil, []byte{}), api.OK)
	d.Crash(0, -1, 0)
	want := texts("abc", "", "d", "d", "", "")
	holds(t, "Commit", d, want)
	l, _ = must(t, d)
	gives(t, "Commit", l.Commit(texts("e")...), api.OK)
	holds(t, "Commit behind Open", d, append(want, []byte("e")))
	if l.Count() != 7 {
		t.Errorf("Count %d, want 7", l.Count())
	}
}

// P4.1: records of all lengths around those of sectors, each by itself and all at once.
func TestCommitLengths(t *testing.T) {
	for _, size := range []int{128, 131} {
		var all [][]byte
		r := &numbers{3}
		for n := range 4 * size {
			d := disk.New(60, size)
			l, _ := must(t, d)
			b := r.bytes(n)
			gives(t, "Commit", l.Commit(b), api.OK)
			gives(t, "Commit", l.Commit([]byte("x")), api.OK)
			holds(t, "one length", d, [][]byte{b, []byte("x")})
			all = append(all, b)
		}
		d := disk.New(4096, size*4)
		l, _ := must(t, d)
		gives(t, "Commit", l.Commit(all...), api.OK)
		holds(t, "all lengths", d, all)
	}
}

// P4.1: Reset replaces; the chapter's example.
func TestReset(t *testing.T) {
	d := disk.New(64, 256)
	l, _ := must(t, d)
	gives(t, "Commit", l.Commit(texts("abc", "", "d")...), api.OK)
	for i := range 5 {
		gives(t, "Reset", l.Reset([]byte("z")), api.OK)
		holds(t, "Reset", d, texts("z"))
		gives(t, "Commit", l.Commit([]byte("y")), api.OK)
		d.Crash(0, -1, 0)
		holds(t, "Reset and Commit", d, texts("z", "y"))
		if l.Count() != 2 {
			t.Errorf("Count %d, want 2", l.Count())
		}
		if i == 2 {
			l, _ = must(t, d)
		}
	}
	gives(t, "Reset", l.Reset(), api.OK)
	holds(t, "Reset to none", d, nil)
	if l.Count() != 0 {
		t.Errorf("Count %d, want 0", l.Count())
	}
	gives(t, "Commit", l.Commit([]byte("q")), api.OK)
	holds(t, "Commit behind Reset to none", d, texts("q"))
	gives(t, "Reset", l.Reset(nil, nil), api.OK)
	holds(t, "Reset to empty records", d, texts("", ""))
}

// P4.1: a Reset uncovers none of the records that were there before it, however many of them lay where.
func TestResetCovers(t *testing.T) {
	r := &numbers{4}
	for range 300 {
		d := disk.New(16+r.next(20), 128)
		l, _ := must(t, d)
		var want [][]byte
		for range 20 {
			b := r.batch(4, 150)
			call, next := l.Commit, join(want, b)
			if r.next(4) == 0 {
				call, next = l.Reset, b
			}
			if call(b...) == api.OK {
				want = next
			}
			holds(t, "rows of Commit and Reset", d, want)
		}
	}
}

// P4.1: a record of MaxRecord bytes can be stored, a longer one can't, wherever it stands.
func TestMaxRecord(t *testing.T) {
	d := disk.New(4096, 4096)
	l, _ := must(t, d)
	b := (&numbers{5}).bytes(api.MaxRecord)
	gives(t, "Commit of the longest", l.Commit(b, nil), api.OK)
	gives(t, "Commit of the longest", l.Commit(b), api.OK)
	want := [][]byte{b, nil, b}
	holds(t, "the longest", d, want)
	long := make([]byte, api.MaxRecord+1)
	for _, c := range [][][]byte{{long}, {nil, long}, {long, nil}, {b, long, b}, {long, long, long, long, long, long, long, long}} {
		gives(t, "Commit of a longer one", l.Commit(c...), api.ErrRecord)
		gives(t, "Reset to a longer one", l.Reset(c...), api.ErrRecord)
	}
	holds(t, "behind errors", d, want)
	gives(t, "Reset to the longest", l.Reset(b), api.OK)
	holds(t, "Reset", d, [][]byte{b})
}

// P4.1: ErrRecord comes before ErrFull, and both before the disk's error, without a write; what is there stays.
func TestErrors(t *testing.T) {
	d := disk.New(16, 128)
	l, _ := must(t, d)
	gives(t, "Commit", l.Commit(texts("a", "b")...), api.OK)
	room := l.Room()
	long, big := make([]byte, api.MaxRecord+1), make([]byte, 16*128)
	check := func(call func(...[]byte) api.Errno) {
		t.Helper()
		gives(t, "too long", call(long), api.ErrRecord)
		gives(t, "too long, no room", call(big, long), api.ErrRecord)
		gives(t, "no room", call(big), api.ErrFull)
		gives(t, "no room", call(nil, make([]byte, api.MaxRecord)), api.ErrFull)
		gives(t, "no room", call(slices.Repeat(texts("x"), 16*128)...), api.ErrFull)
		if l.Count() != 2 || l.Room() != room {
			t.Errorf("Count %d, Room %d, want 2, %d", l.Count(), l.Room(), room)
		}
	}
	d.Cut(0)
	check(l.Commit)
	check(l.Reset)
	if d.Dead() {
		t.Error("a call that is refused has written")
	}
	d.Flush()
	check(l.Commit)
	check(l.Reset)
	for _, c := range [][][]byte{nil, texts(""), texts("c")} {
		gives(t, "Commit without power", l.Commit(c...), api.ErrDiskDead)
		gives(t, "Reset without power", l.Reset(c...), api.ErrDiskDead)
		if l.Count() != 2 || l.Room() != room {
			t.Errorf("Count %d, Room %d, want 2, %d", l.Count(), l.Room(), room)
		}
	}
	d.Crash(math.MaxUint64, -1, 0)
	holds(t, "behind errors", d, texts("a", "b"))
}

// P4.1: a Commit without records writes and flushes each time, and that is all that it does.
func TestCommitNone(t *testing.T) {
	for _, opened := range []bool{false, true} {
		d := disk.New(16, 128)
		l, _ := must(t, d)
		var want [][]byte
		for l.Commit([]byte("a")) == api.OK {
			want = append(want, []byte("a"))
		}
		if opened {
			l, _ = must(t, d)
		}
		room := l.Room()
		for range 100 {
			gives(t, "Commit of none", l.Commit(), api.OK)
			if l.Count() != len(want) || l.Room() < room-2*128 {
				t.Fatalf("Commit of none: Count %d, Room %d", l.Count(), l.Room())
			}
		}
		holds(t, "Commit of none", d, want)
		for n := range 2 {
			c := d.Copy()
			l, _ := must(t, c)
			c.Cut(n) // 0: no write, 1: no flush
			gives(t, "Commit of none, no power", l.Commit(), api.ErrDiskDead)
			c.Crash(math.MaxUint64, -1, 0)
			holds(t, "Commit of none, no power", c, want)
			gives(t, "Commit of none, settled", l.Commit(), api.OK)
			c.Cut(n)
			gives(t, "Commit of none, settled, no power", l.Commit(), api.ErrDiskDead)
		}
	}
	l, _ := must(t, disk.New(16, 128))
	gives(t, "Commit of none, new disk", l.Commit(), api.OK)
}

// P4.1, rules 3 and 7: arguments, with what lies behind them, stay as they are and are not kept; records of one answer share nothing.
func TestApart(t *testing.T) {
	d := disk.New(64, 128)
	l, _ := must(t, d)
	back := []byte("0123456789")
	rows := make([][]byte, 2, 4)
	rows[0], rows[1] = back[2:4], back[4:4]
	for _, call := range []func(...[]byte) api.Errno{l.Commit, l.Reset} {
		gives(t, "call", call(rows...), api.OK)
		if string(back) != "0123456789" || rows[:4][2] != nil || rows[:4][3] != nil {
			t.Errorf("arguments are changed: %q, %q", back, rows[:4])
		}
	}
	copy(back, "xxxxxxxxxx")
	rows[1] = back
	holds(t, "arguments changed later", d, texts("23", ""))
	gives(t, "Commit", l.Commit(texts("ab", "cd", "")...), api.OK)
	_, got := must(t, d)
	for i, b := range got {
		b = append(b, "!!!!!!!!"...)
		for j := range b[:cap(b)] {
			b[:cap(b)][j] = '!'
		}
		for _, c := range got[i+1:] {
			if bytes.Contains(c[:cap(c)], []byte("!")) {
				t.Fatalf("records share memory: %q", got)
			}
		}
	}
	holds(t, "results changed", d, texts("23", "", "ab", "cd", ""))
}

// P4.1: each of several Logs on a disk goes on from its own Open and its own calls.
func TestSeveral(t *testing.T) {
	d := disk.New(40, 128)
	a, _ := must(t, d)
	gives(t, "Commit", a.Commit(texts("a")...), api.OK)
	b, _ := must(t, d)
	c, _ := must(t, d)
	room := b.Room()
	gives(t, "Commit", b.Commit(texts("b", "c")...), api.OK)
	if a.Count() != 1 || b.Count() != 3 || c.Count() != 1 || c.Room() != room {
		t.Errorf("Count %d, %d, %d, want 1, 3, 1", a.Count(), b.Count(), c.Count())
	}
	r := &numbers{6}
	count := []int{1, 3, 1}
	for range 300 {
		i := r.next(3)
		l, k := []*Log{a, b, c}[i], r.next(4)
		if r.next(3) == 0 {
			gives(t, "Reset", l.Reset(r.batch(1, 0)...), api.OK)
			count[i] = 0
		} else if l.Commit(slices.Repeat(texts("x"), k)...) == api.OK {
			count[i] += k
		}
		must(t, d)
		if a.Count() != count[0] || b.Count() != count[1] || c.Count() != count[2] {
			t.Fatalf("Count %d, %d, %d, want %v", a.Count(), b.Count(), c.Count(), count)
		}
	}
}

// cost returns what the promises about room count for records.
func cost(records [][]byte) int {
	n := 0
	for _, b := range records {
		n += len(b) + 16
	}
	return n
}

// P4.2: what Room promises holds for all sizes of disks, from the least to the greatest.
func TestRoom(t *testing.T) {
	r := &numbers{7}
	sizes := [][2]int{{16, 128}, {17, 128}, {18, 131}, {19, 256}, {64, 256}, {16, 4096}, {4096, 128}, {257, 1000}}
	for range 150 {
		sizes = append(sizes, [2]int{16 + r.next(150), 128 + r.next(500)})
	}
	for _, c := range sizes {
		n, size := c[0], c[1]
		l, _ := must(t, disk.New(n, size))
		if l.Room() < n*size/4-4*size {
			t.Fatalf("%v: Room %d", c, l.Room())
		}
		for i := range 150 {
			room, long := l.Room(), 1+r.next(2*size)
			b := r.batch(1+r.next(9), long)
			if i%20 == 0 {
				b = exact(r, room-2*size)
			}
			if i%30 == 11 || i > 20 && r.next(20) == 0 {
				if i%30 == 11 {
					b = exact(r, n*size/4-6*size)
				}
				if err := l.Reset(b...); err != api.OK && (err != api.ErrFull || cost(b) <= n*size/4-6*size) {
					t.Fatalf("%v: Reset: %v of %d", c, err, cost(b))
				}
				continue
			}
			err := l.Commit(b...)
			if err != api.OK && (err != api.ErrFull || cost(b)+2*size <= room) {
				t.Fatalf("%v: Commit: %v of %d, Room %d", c, err, cost(b), room)
			}
			if l.Room() < room-cost(b)-2*size || err != api.OK && l.Room() != room {
				t.Fatalf("%v: Commit: %v of %d, Room from %d to %d", c, err, cost(b), room, l.Room())
			}
		}
		gives(t, "Reset to none", l.Reset(), api.OK)
		if l.Room() < n*size/4-4*size {
			t.Fatalf("%v: Room %d behind Reset", c, l.Room())
		}
	}
}

// exact returns records that cost n bytes and no fewer, many small ones or few great ones.
func exact(r *numbers, n int) [][]byte {
	var b [][]byte
	for most := 1 << r.next(14); n >= 16; {
		k := min(n-16, r.next(most))
		if n-16-k < 16 {
			k = min(n-16, api.MaxRecord)
		}
		b = append(b, make([]byte, k))
		n -= k + 16
	}
	return b
}

// P4.2: ErrFull needs a reason: no more bytes can be in records than the disk has, and a Log goes on to tell how many it has when it is full.
func TestFull(t *testing.T) {
	d := disk.New(30, 128)
	l, _ := must(t, d)
	var want [][]byte
	for i := range 1000 {
		b := bytes.Repeat([]byte{byte(i)}, i%100)
		if l.Commit(b) == api.ErrFull {
			break
		}
		want = append(want, b)
	}
	if len(want) == 1000 {
		t.Fatal("never full")
	}
	holds(t, "full", d, want)
	gives(t, "Commit to a full log", l.Commit(make([]byte, 100), make([]byte, 100)), api.ErrFull)
	l, _ = must(t, d)
	gives(t, "Commit to a full log", l.Commit(make([]byte, 100), make([]byte, 100)), api.ErrFull)
	holds(t, "full", d, want)
	gives(t, "Reset of a full log", l.Reset(texts("a")...), api.OK)
	gives(t, "Commit", l.Commit(texts("b")...), api.OK)
	holds(t, "emptied", d, texts("a", "b"))
}

// A Reset to records that the log holds already, all or some of them, is never ErrFull, however full the log is: package store relies on it.
func TestHeld(t *testing.T) {
	r := &numbers{24}
	for range 100 {
		d := disk.New(16+r.next(40), 128+r.next(200))
		l, _ := must(t, d)
		for long := 300; long > 0; {
			if l.Commit(r.batch(3, long)...) == api.ErrFull {
				long /= 2
			}
			long -= r.next(2)
		}
		_, all := must(t, d.Copy())
		some := slices.DeleteFunc(slices.Clone(all), func([]byte) bool { return r.next(10) == 0 })
		for _, held := range [][][]byte{all, some} {
			e := d.Copy()
			l, _ := must(t, e)
			gives(t, "Reset to what the log holds", l.Reset(held...), api.OK)
			holds(t, "Reset to what the log holds", e, held)
		}
	}
}
