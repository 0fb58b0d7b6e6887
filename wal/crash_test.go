package wal

import (
	"bytes"
	"math"
	"slices"
	"testing"

	"augur/api"
	"augur/disk"
	"augur/sum"
)

// change is a call of Commit or Reset.
type change struct {
	reset   bool
	records [][]byte
}

func (c change) call(l *Log) api.Errno {
	if c.reset {
		return l.Reset(c.records...)
	}
	return l.Commit(c.records...)
}

func (c change) after(was [][]byte) [][]byte {
	if c.reset {
		return c.records
	}
	return join(was, c.records)
}

// oneOf tells of a disk whose log has none of these lists of records.
func oneOf(t *testing.T, what string, d *disk.Disk, lists ...[][]byte) [][]byte {
	t.Helper()
	_, got := must(t, d)
	for _, want := range lists {
		if same(got, want) {
			return got
		}
	}
	t.Fatalf("%s: %d records %.60q, want one of %d lists: %.60q", what, len(got), got, len(lists), lists)
	return nil
}

// crashes returns copies of a disk that have crashed in many ways.
func crashes(r *numbers, d *disk.Disk) []*disk.Disk {
	var out []*disk.Disk
	add := func(keep uint64, torn, at int) {
		c := d.Copy()
		c.Crash(keep, torn, at)
		out = append(out, c)
	}
	add(0, -1, 0)
	add(math.MaxUint64, -1, 0)
	for k := range 8 {
		add(1<<k, -1, 0)
		add(^uint64(1<<k), -1, 0)
		for _, at := range []int{1, 5, 9, d.Size() - 1, r.next(16), r.next(d.Size() + 1)} {
			add(-uint64(r.next(2)), k, at)
		}
		add(r.bits(), -1, 0)
	}
	return out
}

// eachCrash performs the change on copies of a disk with a failure of power at each of its writes and flushes, and hands on what may be left by each: whether the change was told to be done, and the disk behind a crash.
func eachCrash(t *testing.T, r *numbers, d *disk.Disk, c change, see func(err api.Errno, d *disk.Disk)) {
	t.Helper()
	for n := 0; ; n++ {
		e := d.Copy()
		l, _ := must(t, e)
		e.Cut(n)
		err := c.call(l)
		if err != api.OK && err != api.ErrDiskDead {
			t.Fatalf("a change: %v", err)
		}
		for _, f := range crashes(r, e) {
			see(err, f)
		}
		if err == api.OK {
			return
		}
	}
}

// survives tells of a crash during the change, and of another one during Open, that leaves other records than those before or after it.
func survives(t *testing.T, r *numbers, d *disk.Disk, c change) {
	t.Helper()
	_, was := must(t, d.Copy())
	next := c.after(was)
	eachCrash(t, r, d, c, func(err api.Errno, d *disk.Disk) {
		lists := [][][]byte{next}
		if err != api.OK {
			lists = append(lists, was)
		}
		again := d.Copy()
		got := oneOf(t, "a crash", d, lists...)
		again.Cut(r.next(3))
		_, seen, err := Open(again)
		if err == api.OK && !same(seen, got) {
			t.Fatalf("Open: %d records, another time %d", len(seen), len(got))
		}
		again.Crash(r.bits(), r.next(6)-2, r.next(again.Size()))
		holds(t, "a crash during Open", again, got)
	})
}

// disks returns some disks, each with a log in another state.
func disks(t *testing.T, r *numbers) []*disk.Disk {
	t.Helper()
	other := make([][]byte, 40)
	for i := range other {
		other[i] = r.bytes(128)
	}
	out := []*disk.Disk{disk.New(40, 128), filled(t, other)}
	for i := range 6 {
		d := disk.New(40, 128)
		l, _ := must(t, d)
		for j := range i + 1 {
			if (i+j)%3 == 2 {
				gives(t, "Reset", l.Reset(r.batch(4, 100)...), api.OK)
			} else {
				gives(t, "Commit", l.Commit(r.batch(4, 100)...), api.OK)
			}
		}
		out = append(out, d)
	}
	return out
}

// P4.3: all records of a change survive a crash, or none, for each state of the log and each place of the crash.
func TestCrash(t *testing.T) {
	r := &numbers{11}
	for _, d := range disks(t, r) {
		for _, reset := range []bool{false, true} {
			for _, records := range [][][]byte{
				nil, texts(""), texts("a"), texts("a", "", "bc"), {make([]byte, 500)}, {r.bytes(300), r.bytes(100)},
				{bytes.Repeat([]byte{1}, 400)}, {bytes.Repeat([]byte{255}, 400)}, {r.bytes(128), r.bytes(128)},
			} {
				survives(t, r, d, change{reset, records})
			}
		}
	}
}

// P4.3: the same on a disk on which many logs were, so that what a crash leaves is taken from those.
func TestCrashOld(t *testing.T) {
	r := &numbers{12}
	for range 20 {
		d := disk.New(20, 128)
		l, _ := must(t, d)
		same := r.batch(9, 40)
		for range 20 {
			gives(t, "Reset", l.Reset(append(same, r.batch(3, 40)...)...), api.OK)
			l.Commit(same...)
		}
		gives(t, "Reset", l.Reset(texts("a")...), api.OK)
		survives(t, r, d, change{false, same})
		survives(t, r, d, change{true, same})
	}
}

// codeword returns n bytes that, laid over others, change none of their checksums: the polynomial, from a byte on.
func codeword(t *testing.T, n, at int) []byte {
	t.Helper()
	b := make([]byte, n)
	// x^32 and edb88320, the lowest bit of a byte first.
	copy(b[at:], []byte{0x41, 0x06, 0x71, 0xdb, 0x01})
	if sum.Crc(b) != sum.Crc(make([]byte, n)) {
		t.Fatal("the bytes have another checksum")
	}
	return b
}

// over returns a with b laid over it.
func over(a, b []byte) []byte {
	c := bytes.Clone(a)
	for i := range c {
		c[i] ^= b[i]
	}
	return c
}

// P4.3, rule 10: records that differ from older ones in the same place by bytes that a checksum does not see.
func TestCrashForged(t *testing.T) {
	r := &numbers{13}
	for at := 0; at < 290; at += 13 {
		old := r.bytes(300)
		now := over(old, codeword(t, 300, at))
		for _, reset := range []bool{false, true} {
			d := disk.New(24, 128)
			l, _ := must(t, d)
			before := func() {
				gives(t, "Reset", l.Reset(texts("a")...), api.OK)
				gives(t, "Commit", l.Commit(old), api.OK)
			}
			if reset {
				before = func() { gives(t, "Reset", l.Reset(old), api.OK) }
			}
			before() // twice, since each Reset may move to another place
			before()
			gives(t, "Reset", l.Reset(texts("a")...), api.OK)
			survives(t, r, d, change{reset, [][]byte{now}})
			survives(t, r, d, change{reset, [][]byte{now, old}})
		}
	}
}

// P4.3, rule 10: records that contain the sectors of a log, each of them where a sector begins.
func TestCrashImages(t *testing.T) {
	r := &numbers{14}
	d := disk.New(20, 128)
	l, _ := must(t, d)
	gives(t, "Commit", l.Commit(texts("forged", "records")...), api.OK)
	gives(t, "Commit", l.Commit(r.bytes(200)), api.OK)
	forged := image(t, d)[:8]
	gives(t, "Reset", l.Reset(texts("more")...), api.OK)
	forged = append(forged, image(t, d)...)
	all := slices.Concat(forged...)
	for pad := range 128 {
		d := disk.New(120, 128)
		l, _ := must(t, d)
		b := slices.Concat(make([]byte, pad), all)
		want := [][]byte{b}
		gives(t, "Commit", l.Commit(b), api.OK)
		holds(t, "records like a log", d, want)
		gives(t, "Reset", l.Reset(b), api.OK)
		holds(t, "records like a log", d, want)
		for range 3 { // what lies behind the ends are such sectors
			for _, x := range []string{"a", "b"} {
				gives(t, "Reset", l.Reset([]byte(x)), api.OK)
				holds(t, "Reset over records like a log", d, texts(x))
			}
			gives(t, "Commit", l.Commit([]byte("c")), api.OK)
			holds(t, "Commit over records like a log", d, texts("b", "c"))
		}
		if pad%16 == 0 {
			survives(t, r, d, change{false, texts("d", "e")})
			survives(t, r, d, change{false, [][]byte{all[:600]}})
			survives(t, r, d, change{true, [][]byte{all[:600]}})
		}
	}
}

// P4.3: disks that were logs, but of which one sector is lost: whatever Open takes them for, a crash reveals none of the other records.
func TestCrashDamaged(t *testing.T) {
	r := &numbers{15}
	d := disk.New(16, 128)
	l, _ := must(t, d)
	gives(t, "Reset", l.Reset(r.bytes(200), []byte("a")), api.OK)
	gives(t, "Commit", l.Commit(texts("b")...), api.OK)
	gives(t, "Reset", l.Reset(r.bytes(200), []byte("c")), api.OK)
	gives(t, "Commit", l.Commit(texts("d")...), api.OK)
	b := image(t, d)
	for i := range b {
		for _, lost := range [][]byte{make([]byte, 128), r.bytes(128)} {
			c := slices.Clone(b)
			c[i] = lost
			survives(t, r, filled(t, c), change{false, texts("e")})
			survives(t, r, filled(t, c), change{true, texts("e")})
		}
	}
}

// A frame of which a byte is another one is not returned, nor what lies behind it; a crash does not bring it back.
func TestCrashBytes(t *testing.T) {
	r := &numbers{22}
	d := disk.New(20, 128)
	l, _ := must(t, d)
	for _, s := range []string{"a", "frame", "b"} {
		gives(t, "Commit", l.Commit([]byte(s)), api.OK)
	}
	b := image(t, d)
	i := slices.IndexFunc(b, func(s []byte) bool { return bytes.Contains(s, []byte("frame")) })
	for j := range bytes.Index(b[i], []byte("frame")) + len("frame") {
		c := slices.Clone(b)
		c[i] = bytes.Clone(b[i])
		c[i][j] ^= 0x80
		holds(t, "a damaged frame", filled(t, c), texts("a"))
		survives(t, r, filled(t, c), change{false, texts("frame")})
		survives(t, r, filled(t, c), change{true, texts("frame")})
	}
}

// A head of which a byte is another one is not that of a log.
func TestOpenHead(t *testing.T) {
	d := disk.New(20, 128)
	l, _ := must(t, d)
	gives(t, "Commit", l.Commit([]byte("a")), api.OK)
	b := image(t, d)
	for j := range b[headAt] {
		c := slices.Clone(b)
		c[headAt] = bytes.Clone(b[headAt])
		c[headAt][j] ^= 0x80
		holds(t, "a damaged head", filled(t, c), nil)
	}
}

// An area filled with frames to its last sector, as no Log leaves it, lets none of its Log's sectors lie elsewhere.
func TestOpenOverfull(t *testing.T) {
	r := &numbers{23}
	one := frame(marked, texts("a"), 128)[:128]
	for long := 1; long < 8; long++ {
		b := [][]byte{head(0, 128)}
		last := slices.Collect(slices.Chunk(frame(marked, [][]byte{make([]byte, 128*(long-1)+1)}, 128), 128))
		for range 7 - long {
			b = append(b, one)
		}
		b = append(b, last[:long]...)
		b = append(b, one, one, one, one, one, one, one, one)
		d := filled(t, b)
		l, got := must(t, d)
		if !same(got, slices.Repeat(texts("a"), 7-long)) || l.Room() < 0 {
			t.Errorf("%d records, Room %d", len(got), l.Room())
		}
		gives(t, "Commit of none", l.Commit(), api.OK)
		holds(t, "Commit of none", d, got)
		survives(t, r, d, change{true, texts("b")})
	}
}

// P4.3: what Open has returned is durable, even if it was written without a flush.
func TestOpenDurable(t *testing.T) {
	r := &numbers{16}
	for _, d := range disks(t, r) {
		e := disk.New(d.Sectors(), d.Size())
		for i, b := range image(t, d) {
			gives(t, "Write", e.Write(i, b), api.OK)
		}
		_, got := must(t, e)
		e.Crash(0, -1, 0)
		holds(t, "a crash behind Open", e, got)
		for i := range d.Sectors() {
			gives(t, "Write", e.Write(i, make([]byte, d.Size())), api.OK)
		}
		_, got = must(t, e)
		e.Crash(0, -1, 0)
		holds(t, "a crash behind Open", e, got)
	}
}

// P4.3: a Log that has failed is used again when there is power: it has the records before that call, and the next call that writes removes what that one has left.
func TestAgain(t *testing.T) {
	r := &numbers{17}
	lost := []change{{false, texts("x", "y")}, {true, texts("x", "y")}, {false, [][]byte{r.bytes(300)}}, {true, nil}, {false, nil}}
	then := []change{{false, texts("z")}, {true, [][]byte{r.bytes(290)}}, {true, nil}, {false, nil}}
	for i, d := range disks(t, r) {
		if i%3 == 2 {
			continue // another log, but not another kind of it
		}
		_, was := must(t, d.Copy())
		for _, first := range lost {
			for _, second := range then {
				again(t, r, d, i%2 == 0, was, first, second)
			}
		}
	}
}

// again lets the first change fail at each of its writes and flushes, and the same Log perform the second one, which fails at each of its own before it is done.
func again(t *testing.T, r *numbers, d *disk.Disk, settled bool, was [][]byte, first, second change) {
	t.Helper()
	long := make([]byte, api.MaxRecord+1)
	for n := 0; ; n++ {
		for m := 0; ; m++ {
			e := d.Copy()
			l, _ := must(t, e)
			if settled {
				gives(t, "Commit of none", l.Commit(), api.OK)
			}
			room := l.Room()
			e.Cut(n)
			if first.call(l) == api.OK {
				return
			}
			e.Crash(r.bits()|uint64(r.next(2))*math.MaxUint64, r.next(6)-2, r.next(130))
			refused(t, e, l, long)
			oneOf(t, "a failed call", e.Copy(), was, first.after(was))
			if l.Count() != len(was) || l.Room() != room {
				t.Fatalf("a failed call: Count %d, Room %d, want %d, %d", l.Count(), l.Room(), len(was), room)
			}
			e.Cut(m)
			err := second.call(l)
			e.Crash(r.bits()|uint64(r.next(2))*math.MaxUint64, r.next(6)-2, r.next(130))
			if err == api.OK {
				holds(t, "a call behind a failed one", e, second.after(was))
				gives(t, "Commit", l.Commit(texts("end")...), api.OK)
				holds(t, "a call behind both", e, join(second.after(was), texts("end")))
				break
			}
			oneOf(t, "two failed calls", e.Copy(), was, first.after(was), second.after(was))
			gives(t, "Commit", l.Commit(texts("end")...), api.OK)
			holds(t, "a call behind two failed ones", e, join(was, texts("end")))
		}
	}
}

// refused makes calls that write nothing, and so leave everything as it is.
func refused(t *testing.T, d *disk.Disk, l *Log, long []byte) {
	t.Helper()
	before := image(t, d)
	gives(t, "too long", l.Commit(long), api.ErrRecord)
	gives(t, "no room", l.Reset(long[1:]), api.ErrFull)
	if !same(before, image(t, d)) {
		t.Fatal("a call that is refused has written")
	}
}

// P4.3: what a failed call has left is removed before anything else counts: once the next call has come so far that its own records may be there, those of the failed one never are.
func TestAgainRemoved(t *testing.T) {
	r := &numbers{18}
	for _, first := range []change{{false, texts("x", "y")}, {true, texts("x", "y")}} {
		for _, second := range []change{{false, texts("z")}, {true, texts("z")}} {
			d := disk.New(30, 128)
			l, _ := must(t, d)
			was := texts("a", "b")
			gives(t, "Commit", l.Commit(was...), api.OK)
			calls := 0
			for e := d.Copy(); ; calls++ {
				k, _ := must(t, e)
				e.Cut(calls)
				if first.call(k) == api.OK {
					break
				}
				e = d.Copy()
			}
			m, _ := must(t, d)
			d.Cut(calls - 1) // the last flush
			gives(t, "a call that fails last", first.call(m), api.ErrDiskDead)
			d.Crash(math.MaxUint64, -1, 0)
			seen := 0
			for n := 0; n < 20; n++ {
				e, k := d.Copy(), *m
				k.disk = e
				e.Cut(n)
				err := second.call(&k)
				states := map[int]bool{}
				for _, f := range crashes(r, e) {
					_, got := must(t, f)
					states[slices.IndexFunc([][][]byte{was, first.after(was), second.after(was)}, func(want [][]byte) bool { return same(got, want) })] = true
				}
				if states[-1] || states[1] && states[2] || err == api.OK && len(states) != 1 {
					t.Fatalf("power for %d calls: records of %v", n, states)
				}
				if states[1] {
					seen++
				}
			}
			if seen == 0 {
				t.Error("the failed call has left nothing: the test is none")
			}
		}
	}
}

// P4.3, P4.4: lives of many changes and crashes, by Logs that are opened again or go on.
func TestLives(t *testing.T) {
	r := &numbers{19}
	for i := range 300 {
		d := disk.New(16+r.next(40), 128+r.next(100))
		l, was := must(t, d)
		old := [][][]byte{was}
		for range 60 {
			c := change{r.next(4) == 0, r.batch(4, 120)}
			if r.next(3) == 0 {
				d.Cut(r.next(12))
			}
			switch err := c.call(l); err {
			case api.OK:
				old = [][][]byte{c.after(old[0])}
			case api.ErrFull:
				gives(t, "Reset", shed(d, l), api.OK)
				old = [][][]byte{nil}
			default:
				old = append(old, c.after(old[0]))
			}
			if l.Count() != len(old[0]) {
				t.Fatalf("life %d: Count %d, want %d", i, l.Count(), len(old[0]))
			}
			if d.Dead() || r.next(5) == 0 {
				d.Crash(r.bits(), r.next(9)-2, r.next(d.Size()+2))
				oneOf(t, "a life", d.Copy(), old...)
			}
			if r.next(3) == 0 {
				l, was = reopened(t, d)
				oneOf(t, "a life", d.Copy(), old...)
				old = [][][]byte{was}
			}
		}
	}
}

// reopened opens the log of a disk whose power may fail.
func reopened(t *testing.T, d *disk.Disk) (*Log, [][]byte) {
	t.Helper()
	if l, records, err := Open(d); err == api.OK {
		d.Crash(0, -1, 0) // no failure is scheduled any more
		return l, records
	}
	d.Crash(0, -1, 0)
	return must(t, d)
}

// shed empties a log, whatever power there is.
func shed(d *disk.Disk, l *Log) api.Errno {
	for l.Reset() != api.OK {
		d.Crash(0, -1, 0)
	}
	return api.OK
}

// P4.4: great records, too, are there completely or not at all.
func TestCrashGreat(t *testing.T) {
	r := &numbers{20}
	d := disk.New(700, 4096)
	l, _ := must(t, d)
	gives(t, "Commit", l.Commit(texts("a")...), api.OK)
	b := r.bytes(300000)
	want := [][]byte{b, nil, b}
	for n := 0; ; n += 1 + n/7 {
		e := d.Copy()
		l, _ := must(t, e)
		e.Cut(n)
		err := l.Commit(want...)
		e.Crash(r.bits(), r.next(160)-2, r.next(4096))
		if err == api.OK {
			holds(t, "great records", e, join(texts("a"), want))
			return
		}
		oneOf(t, "great records", e, texts("a"), join(texts("a"), want))
	}
}

// Rule 8: the same calls leave the same bytes.
func TestSame(t *testing.T) {
	var first [][]byte
	for range 3 {
		r := &numbers{21}
		d := disk.New(40, 128)
		l, _ := must(t, d)
		for range 30 {
			l.Commit(r.batch(4, 100)...)
			if r.next(5) == 0 {
				l.Reset(r.batch(4, 100)...)
			}
		}
		b := image(t, d)
		if first != nil && !same(first, b) {
			t.Fatal("the same calls, other bytes")
		}
		first = b
	}
}
