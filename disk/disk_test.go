package disk

import (
	"bytes"
	"math"
	"slices"
	"testing"

	"augur/api"
)

// numbers is a fixed row of numbers.
type numbers struct{ x uint64 }

func (r *numbers) next(n int) int {
	r.x = r.x*6364136223846793005 + 1442695040888963407
	return int(r.x >> 33 % uint64(n))
}

func (r *numbers) bits() uint64 {
	return uint64(r.next(1<<31))<<33 ^ uint64(r.next(1<<31))<<8 ^ uint64(r.next(256))
}

// full returns a sector of 64 bytes x.
func full(x byte) []byte { return bytes.Repeat([]byte{x}, 64) }

// mixed returns a sector of 64 bytes: n of them a, the others b.
func mixed(n int, a, b byte) []byte { return append(full(a)[:n:n], full(b)[n:]...) }

// holds tells of sector i if its bytes are not want.
func holds(t *testing.T, what string, d *Disk, i int, want []byte) {
	t.Helper()
	if b, err := d.Read(i); err != api.OK || !bytes.Equal(b, want) {
		t.Errorf("%s: sector %d: %v, %v, want %v", what, i, b, err, want)
	}
}

// gives tells of a call that does not return want.
func gives(t *testing.T, what string, err, want api.Errno) {
	t.Helper()
	if err != want {
		t.Errorf("%s: %v, want %v", what, err, want)
	}
}

// fails tells of a Read of sector i that does not return want, and no bytes.
func fails(t *testing.T, what string, d *Disk, i int, want api.Errno) {
	t.Helper()
	if b, err := d.Read(i); err != want || len(b) != 0 {
		t.Errorf("%s: Read(%d): %v, %v, want %v", what, i, b, err, want)
	}
}

// dirty returns a disk whose n sectors are durable as 1, 1 .. and have been written as 2, 2 .. since, the last one first.
func dirty(t *testing.T, n int) *Disk {
	t.Helper()
	d := New(n, 64)
	for i := range n {
		gives(t, "Write", d.Write(i, full(1)), api.OK)
	}
	gives(t, "Flush", d.Flush(), api.OK)
	for i := range n {
		gives(t, "Write", d.Write(n-1-i, full(2)), api.OK)
	}
	return d
}

// dead returns a disk without power; sector 0 is durable as 1 and has been written as 2 since.
func dead(t *testing.T) *Disk {
	t.Helper()
	d := dirty(t, 1)
	d.Cut(0)
	gives(t, "Flush without power", d.Flush(), api.ErrDiskDead)
	return d
}

// P3.1: New brings its arguments within the limits; Sectors and Size return what came of them.
func TestNewLimits(t *testing.T) {
	for _, c := range [][2]int{
		{math.MinInt, 1}, {-1, 1}, {0, 1}, {1, 1}, {2, 2}, {3, 3}, {4095, 4095}, {4096, 4096}, {4097, 4096}, {math.MaxInt, 4096},
	} {
		if d := New(c[0], 64); d.Sectors() != c[1] || d.Size() != 64 {
			t.Errorf("New(%d, 64) has %d sectors of %d bytes", c[0], d.Sectors(), d.Size())
		}
	}
	for _, c := range [][2]int{
		{math.MinInt, 64}, {-1, 64}, {0, 64}, {63, 64}, {64, 64}, {65, 65}, {100, 100}, {4095, 4095}, {4096, 4096}, {4097, 4096}, {math.MaxInt, 4096},
	} {
		if d := New(5, c[0]); d.Sectors() != 5 || d.Size() != c[1] {
			t.Errorf("New(5, %d) has %d sectors of %d bytes", c[0], d.Sectors(), d.Size())
		}
	}
	for _, c := range [][4]int{{0, 0, 1, 64}, {4097, 4097, 4096, 4096}, {math.MinInt, math.MaxInt, 1, 4096}} {
		if d := New(c[0], c[1]); d.Sectors() != c[2] || d.Size() != c[3] {
			t.Errorf("New(%d, %d) has %d sectors of %d bytes", c[0], c[1], d.Sectors(), d.Size())
		}
	}
}

// P3.1: all bytes of a new disk are 0, it has power, and no failure is scheduled.
func TestNewState(t *testing.T) {
	for _, c := range [][2]int{{1, 64}, {7, 100}, {4096, 64}, {20, 4096}} {
		d := New(c[0], c[1])
		for i := range c[0] {
			holds(t, "a new disk", d, i, make([]byte, c[1]))
		}
		for range 100 {
			gives(t, "Flush of a new disk", d.Flush(), api.OK)
		}
		if d.Dead() {
			t.Error("a new disk has no power")
		}
	}
	d := New(2, 64)
	d.Crash(math.MaxUint64, 0, 32)
	holds(t, "Crash of a new disk", d, 0, full(0))
	holds(t, "Crash of a new disk", d, 1, full(0))
}

// P3.1: two disks have nothing in common.
func TestApart(t *testing.T) {
	c, d := New(2, 64), New(2, 64)
	c.Write(0, full(1))
	c.Flush()
	c.Write(1, full(2))
	c.Cut(0)
	holds(t, "the other disk", d, 0, full(0))
	holds(t, "the other disk", d, 1, full(0))
	gives(t, "Flush of the other disk", d.Flush(), api.OK)
}

// P3.1: Read returns what was written last, durable or not, each sector by itself.
func TestWriteRead(t *testing.T) {
	d := New(4, 100)
	want := make([]byte, 100)
	for i := range want {
		want[i] = byte(i*7 + 1)
	}
	gives(t, "Write", d.Write(2, want), api.OK)
	holds(t, "written", d, 2, want)
	for _, i := range []int{0, 1, 3} {
		holds(t, "not written", d, i, make([]byte, 100))
	}
	gives(t, "Flush", d.Flush(), api.OK)
	holds(t, "flushed", d, 2, want)
	other := bytes.Repeat([]byte{9}, 100)
	gives(t, "Write", d.Write(2, other), api.OK)
	gives(t, "Write", d.Write(0, want), api.OK)
	gives(t, "Write", d.Write(3, other), api.OK)
	holds(t, "written again", d, 2, other)
	holds(t, "the first sector", d, 0, want)
	holds(t, "the last sector", d, 3, other)
	holds(t, "not written", d, 1, make([]byte, 100))
}

// P3.1: the disk keeps neither the bytes that it is given nor those that it returns.
func TestBytesCopied(t *testing.T) {
	d := New(2, 64)
	b := full(1)
	spare := append(b, 77, 77)[:64]
	d.Write(0, spare)
	clear(spare)
	holds(t, "behind a change of the argument", d, 0, full(1))
	for range 2 { // not durable, then durable
		got, _ := d.Read(0)
		clear(got)
		_ = append(got, 5)
		holds(t, "behind a change of a result", d, 0, full(1))
		d.Flush()
	}
	zeros, _ := d.Read(1)
	zeros[3] = 8
	holds(t, "behind a change of zeros", d, 1, full(0))
	holds(t, "zeros of another disk", New(1, 64), 0, full(0))

	arg := append(full(6), 77, 77)
	d.Write(1, arg[:64])
	d.Write(1, full(7))
	d.Flush()
	d.Crash(0, 0, 30)
	if !bytes.Equal(arg, append(full(6), 77, 77)) {
		t.Errorf("an argument has been changed: %v", arg)
	}
	got, _ := d.Read(1)
	d.Write(1, full(8))
	d.Flush()
	if !bytes.Equal(got, full(7)) {
		t.Errorf("a result has been changed: %v", got)
	}
}

// P3.1: sectors that are not there, sizes that are wrong, in the order of the errors; nothing changes.
func TestErrors(t *testing.T) {
	d := New(3, 64)
	d.Write(0, full(1))
	for _, i := range []int{-1, 3, 4, 64, math.MinInt, math.MaxInt, 1 << 32, -1 << 32} {
		fails(t, "no such sector", d, i, api.ErrDiskPlace)
		gives(t, "Write of no such sector", d.Write(i, full(2)), api.ErrDiskPlace)
		gives(t, "Write of no such sector, wrong size", d.Write(i, nil), api.ErrDiskPlace)
	}
	for _, n := range []int{0, 1, 63, 65, 128, 4096, 4097} {
		gives(t, "Write, wrong size", d.Write(0, make([]byte, n)), api.ErrDiskSize)
		gives(t, "Write, wrong size", d.Write(2, make([]byte, n)), api.ErrDiskSize)
	}
	gives(t, "Write of nil", d.Write(2, nil), api.ErrDiskSize)
	gives(t, "Write of spare bytes", d.Write(2, make([]byte, 10, 64)), api.ErrDiskSize)
	holds(t, "behind errors", d, 0, full(1))
	holds(t, "behind errors", d, 1, full(0))
	holds(t, "behind errors", d, 2, full(0))
	if d.Dead() {
		t.Error("an error takes the power")
	}
}

// P3.1, P3.2: without power that is the first error of every call, and Sectors and Size go on.
func TestErrorsDead(t *testing.T) {
	d := dead(t)
	for _, i := range []int{0, -1, 1, math.MaxInt} {
		fails(t, "no power", d, i, api.ErrDiskDead)
		gives(t, "Write", d.Write(i, full(3)), api.ErrDiskDead)
		gives(t, "Write, wrong size", d.Write(i, nil), api.ErrDiskDead)
	}
	gives(t, "Flush", d.Flush(), api.ErrDiskDead)
	if d.Sectors() != 1 || d.Size() != 64 || !d.Dead() {
		t.Error("Sectors, Size or Dead of a dead disk")
	}
	d.Crash(math.MaxUint64, -1, 0)
	holds(t, "what was written before the failure", d, 0, full(2))
}

// P3.1, P3.3: flushed bytes survive each kind of crash, also a second one; others need not.
func TestDurable(t *testing.T) {
	for _, keep := range []uint64{0, 1, math.MaxUint64} {
		for torn := -1; torn < 3; torn++ {
			d := New(3, 64)
			d.Write(0, full(4))
			d.Write(2, full(5))
			d.Flush()
			d.Flush()
			for range 2 {
				d.Crash(keep, torn, 20)
				holds(t, "flushed", d, 0, full(4))
				holds(t, "never written", d, 1, full(0))
				holds(t, "flushed", d, 2, full(5))
			}
		}
	}
	d := New(1, 64)
	d.Write(0, full(4))
	d.Crash(0, -1, 0)
	holds(t, "not flushed", d, 0, full(0))
}

// P3.2: after Cut(n) n calls succeed, of Write and of Flush, and the next one finds no power.
func TestCutCounts(t *testing.T) {
	for _, c := range [][2]int{{math.MinInt, 0}, {-1, 0}, {0, 0}, {1, 1}, {2, 2}, {7, 7}, {100, 100}} {
		for last := range 2 {
			d := New(2, 64)
			d.Cut(c[0])
			for i := range c[1] {
				if i%3 == 1 {
					gives(t, "Flush before the failure", d.Flush(), api.OK)
				} else {
					gives(t, "Write before the failure", d.Write(0, full(byte(i))), api.OK)
				}
			}
			if d.Dead() {
				t.Errorf("Cut(%d): dead before the call that fails", c[0])
			}
			if last == 0 {
				gives(t, "Write at the failure", d.Write(1, full(9)), api.ErrDiskDead)
			} else {
				gives(t, "Flush at the failure", d.Flush(), api.ErrDiskDead)
			}
			if !d.Dead() {
				t.Errorf("Cut(%d): not dead behind the call that failed", c[0])
			}
			gives(t, "Write behind the failure", d.Write(1, full(9)), api.ErrDiskDead)
			gives(t, "Flush behind the failure", d.Flush(), api.ErrDiskDead)
		}
	}
	d := New(1, 64)
	d.Cut(math.MaxInt)
	for range 1000 {
		gives(t, "Flush far before the failure", d.Flush(), api.OK)
	}
}

// P3.2: calls with other errors, and those of the other functions, do not count.
func TestCutOthers(t *testing.T) {
	for n := range 3 {
		d := New(2, 64)
		d.Cut(n)
		for left := n; ; left-- {
			for range 3 {
				gives(t, "Write of no such sector", d.Write(2, full(1)), api.ErrDiskPlace)
				gives(t, "Write of no such sector", d.Write(-1, nil), api.ErrDiskPlace)
				gives(t, "Write, wrong size", d.Write(1, nil), api.ErrDiskSize)
				fails(t, "no such sector", d, 2, api.ErrDiskPlace)
				holds(t, "before the failure", d, 1, full(0))
				d.Copy().Flush()
				if d.Dead() || d.Sectors() != 2 || d.Size() != 64 {
					t.Errorf("Cut(%d): state before the failure", n)
				}
			}
			if left == 0 {
				break
			}
			gives(t, "Flush", d.Flush(), api.OK)
		}
		gives(t, "Flush at the failure", d.Flush(), api.ErrDiskDead)
	}
}

// P3.2: the chapter's example.
func TestCutExample(t *testing.T) {
	d := New(3, 64)
	d.Cut(1)
	gives(t, "Write of no such sector", d.Write(3, full(1)), api.ErrDiskPlace)
	gives(t, "Flush", d.Flush(), api.OK)
	gives(t, "Write", d.Write(0, full(1)), api.ErrDiskDead)
}

// P3.2: a call that finds no power has no effect.
func TestCutNoEffect(t *testing.T) {
	d := dirty(t, 2)
	d.Cut(0)
	gives(t, "Write", d.Write(0, full(3)), api.ErrDiskDead)
	d.Crash(math.MaxUint64, -1, 0)
	holds(t, "a Write without power", d, 0, full(2))
	holds(t, "a Write before it", d, 1, full(2))

	d = dirty(t, 2)
	d.Cut(0)
	gives(t, "Flush", d.Flush(), api.ErrDiskDead)
	d.Crash(1, -1, 0)
	holds(t, "a Flush without power, kept", d, 0, full(2))
	holds(t, "a Flush without power, lost", d, 1, full(1))

	d = New(3, 64)
	d.Write(2, full(2))
	d.Cut(0)
	d.Write(0, full(3))
	d.Write(1, full(3))
	d.Crash(1, -1, 0)
	holds(t, "a Write without power has no number", d, 2, full(2))
	holds(t, "a Write without power", d, 0, full(0))
}

// P3.2: a later Cut replaces an earlier one, whichever is farther away; none brings power back.
func TestCutAgain(t *testing.T) {
	for _, c := range [][3]int{{0, 2, 2}, {9, 1, 1}, {-4, 3, 3}, {3, -4, 0}} {
		d := New(1, 64)
		d.Cut(c[0])
		d.Cut(c[1])
		for range c[2] {
			gives(t, "Flush before the failure", d.Flush(), api.OK)
		}
		gives(t, "Flush at the failure", d.Flush(), api.ErrDiskDead)
	}
	d := New(1, 64)
	d.Cut(3)
	d.Flush()
	d.Flush()
	d.Cut(1)
	gives(t, "Flush before the failure", d.Flush(), api.OK)
	gives(t, "Flush at the failure", d.Flush(), api.ErrDiskDead)
	d.Cut(5)
	if !d.Dead() || d.Flush() != api.ErrDiskDead {
		t.Error("Cut brings power back")
	}
	d.Crash(0, -1, 0)
	for range 10 {
		gives(t, "Flush behind Crash", d.Flush(), api.OK)
	}
}

// P3.2: Crash brings power back and cancels a scheduled failure.
func TestCrashPower(t *testing.T) {
	d := dead(t)
	d.Crash(0, -1, 0)
	if d.Dead() {
		t.Error("dead behind Crash")
	}
	for range 10 {
		gives(t, "Write behind Crash", d.Write(0, full(7)), api.OK)
		gives(t, "Flush behind Crash", d.Flush(), api.OK)
	}
	holds(t, "behind Crash", d, 0, full(7))
	for n := range 3 {
		d.Cut(n)
		d.Crash(0, -1, 0)
		for range 10 {
			gives(t, "Flush behind a cancelled failure", d.Flush(), api.OK)
		}
	}
	d.Cut(0)
	gives(t, "Flush at a new failure", d.Flush(), api.ErrDiskDead)
}

// P3.2: each bit of keep says of one sector whether its written bytes are preserved.
func TestCrashKeep(t *testing.T) {
	r := &numbers{3}
	for _, keep := range []uint64{0, 1, 2, 5, 1 << 63, math.MaxUint64, r.bits(), r.bits()} {
		for _, n := range []int{1, 2, 63, 64, 65, 128, 200} {
			d := dirty(t, n)
			d.Crash(keep, -1, 0)
			for i := range n {
				want := full(1)
				if keep&(1<<(i%64)) != 0 {
					want = full(2)
				}
				holds(t, "a crash", d, i, want)
			}
		}
	}
}

// P3.2: the numbers count only sectors that are not durable, in their order, whatever the order of the calls.
func TestCrashNumbers(t *testing.T) {
	d := New(10, 64)
	for _, i := range []int{0, 3, 4, 9} {
		d.Write(i, full(1))
	}
	d.Flush()
	for _, i := range []int{8, 3, 5, 0, 3, 8} { // twice the same, too
		d.Write(i, full(byte(20+i)))
	}
	d.Crash(0b1010, -1, 0) // 0: 0, 1: 3, 2: 5, 3: 8
	for i, want := range []byte{1, 0, 0, 23, 1, 0, 0, 0, 28, 1} {
		holds(t, "a crash", d, i, full(want))
	}
}

// P3.2: a sector written with the bytes that it had counts; one whose Write failed does not.
func TestCrashSameBytes(t *testing.T) {
	d := New(4, 64)
	d.Write(1, full(0))
	d.Write(0, nil)
	d.Write(-1, full(4))
	d.Write(2, full(5))
	d.Write(3, full(6))
	d.Crash(0b010, -1, 0)
	holds(t, "number 1", d, 2, full(5))
	holds(t, "number 2", d, 3, full(0))

	d.Write(0, full(1))
	d.Write(0, full(0)) // back to the durable bytes
	d.Write(3, full(6))
	d.Crash(0b01, -1, 0)
	holds(t, "number 1", d, 3, full(0))
	d.Write(0, full(1))
	d.Write(0, full(0))
	d.Write(3, full(6))
	d.Crash(0b10, -1, 0)
	holds(t, "number 1", d, 3, full(6))
}

// P3.2: a Flush and a Crash start the numbers anew; a Flush that fails does not.
func TestCrashSince(t *testing.T) {
	d := dirty(t, 3)
	d.Flush()
	d.Write(2, full(3))
	d.Crash(1, -1, 0)
	holds(t, "written behind Flush", d, 2, full(3))

	d = dirty(t, 3)
	d.Crash(0, -1, 0)
	d.Write(2, full(3))
	d.Crash(1, -1, 0)
	holds(t, "lost by the crash before", d, 0, full(1))
	holds(t, "written behind Crash", d, 2, full(3))

	d = dirty(t, 3)
	d.Crash(0b111, -1, 0)
	d.Crash(0, -1, 0)
	for i := range 3 {
		holds(t, "preserved by the crash before", d, i, full(2))
	}

	d = dirty(t, 3)
	d.Cut(0)
	d.Flush()
	d.Crash(0b100, -1, 0)
	holds(t, "behind a Flush that failed", d, 0, full(1))
	holds(t, "behind a Flush that failed", d, 2, full(2))
}

// P3.2: the torn sector has its first bytes new and the others as they were, whatever its bit of keep is.
func TestCrashTorn(t *testing.T) {
	for _, c := range [][2]int{
		{math.MinInt, 0}, {-1, 0}, {0, 0}, {1, 1}, {31, 31}, {63, 63}, {64, 64}, {65, 64}, {math.MaxInt, 64},
	} {
		for _, keep := range []uint64{0, math.MaxUint64} {
			others := full(1)
			if keep != 0 {
				others = full(2)
			}
			for torn := range 3 {
				d := dirty(t, 3)
				d.Crash(keep, torn, c[0])
				for i := range 3 {
					if i == torn {
						holds(t, "torn", d, i, mixed(c[1], 2, 1))
					} else {
						holds(t, "not torn", d, i, others)
					}
				}
				d.Crash(math.MaxUint64, torn, 64)
				holds(t, "torn, then durable", d, torn, mixed(c[1], 2, 1))
			}
		}
	}
}

// P3.2: a number that no sector has tears none; a torn one counts beyond 64 as it is.
func TestCrashTornNumber(t *testing.T) {
	for _, torn := range []int{math.MinInt, -64, -2, -1, 3, 64, 66, 128, math.MaxInt, 1 << 32} {
		d := dirty(t, 3)
		d.Crash(0b101, torn, 20)
		for i, want := range []byte{2, 1, 2} {
			holds(t, "no sector torn", d, i, full(want))
		}
	}
	for _, torn := range []int{64, 69, 70} {
		d := dirty(t, 70)
		d.Crash(0, torn, 20)
		for i := range 70 {
			if i == torn {
				holds(t, "torn", d, i, mixed(20, 2, 1))
			} else {
				holds(t, "not torn", d, i, full(1))
			}
		}
	}
	d := New(3, 64)
	d.Write(2, full(2))
	d.Crash(0, 0, 10) // the number, not the sector's own
	holds(t, "torn", d, 2, mixed(10, 2, 0))
	d.Write(2, full(3))
	d.Crash(0, 2, 10)
	holds(t, "not torn", d, 2, mixed(10, 2, 0))
}

// P3.2: a torn sector of another size, with bytes that differ.
func TestCrashTornBytes(t *testing.T) {
	d := New(2, 100)
	old, now := make([]byte, 100), make([]byte, 100)
	for i := range 100 {
		old[i], now[i] = byte(i), byte(200-i)
	}
	d.Write(1, old)
	d.Flush()
	d.Write(1, full(1)) // wrong size
	d.Write(1, now)
	d.Crash(0, 0, 37)
	holds(t, "torn", d, 1, append(slices.Clone(now[:37]), old[37:]...))
	d.Write(1, now)
	d.Crash(0, 0, 64)
	holds(t, "torn", d, 1, append(slices.Clone(now[:64]), old[64:]...))
	d.Write(1, bytes.Repeat([]byte{255}, 100))
	d.Crash(0, 0, 1000)
	holds(t, "torn", d, 1, bytes.Repeat([]byte{255}, 100))
}

// P3.2: Copy has the same bytes, durable and not, and later calls on one disk do not change the other.
func TestCopyBytes(t *testing.T) {
	for keep := range uint64(4) {
		d := dirty(t, 2)
		c := d.Copy()
		holds(t, "a copy", c, 0, full(2))
		d.Crash(keep, -1, 0)
		holds(t, "a copy of which the original has crashed", c, 0, full(2))
		c.Crash(^keep, -1, 0)
		for i := range 2 {
			bit := byte(keep >> i & 1)
			holds(t, "the original", d, i, full(1+bit))
			holds(t, "the copy", c, i, full(2-bit))
		}
	}
	d := dirty(t, 2)
	c := d.Copy()
	c.Write(0, full(3))
	c.Flush()
	holds(t, "the original", d, 0, full(2))
	d.Write(1, full(4))
	d.Crash(0b10, -1, 0)
	holds(t, "the original", d, 0, full(1))
	holds(t, "the original", d, 1, full(4))
	holds(t, "the copy", c, 0, full(3))
	holds(t, "the copy", c, 1, full(2))
	c.Crash(0, 0, 10)
	holds(t, "the copy", c, 1, full(2))
	if e := New(5, 100).Copy(); e.Sectors() != 5 || e.Size() != 100 {
		t.Errorf("a copy has %d sectors of %d bytes", e.Sectors(), e.Size())
	}
}

// P3.2: Copy has the same power and the same scheduled failure, and its own from then on.
func TestCopyPower(t *testing.T) {
	d := dead(t)
	c := d.Copy()
	if !c.Dead() || c.Flush() != api.ErrDiskDead {
		t.Error("a copy of a dead disk has power")
	}
	d.Crash(0, -1, 0)
	if d.Dead() || !c.Dead() {
		t.Error("Crash of the original brings power back to the copy")
	}
	e := d.Copy()
	if e.Dead() || e.Flush() != api.OK {
		t.Error("a copy of a disk with power is dead")
	}
	d = dirty(t, 1)
	d.Cut(2)
	d.Flush()
	c = d.Copy()
	gives(t, "Flush of the original", d.Flush(), api.OK)
	gives(t, "Flush of the original, no power", d.Flush(), api.ErrDiskDead)
	if c.Dead() {
		t.Error("the failure of the original takes the copy's power")
	}
	gives(t, "Flush of the copy", c.Flush(), api.OK)
	gives(t, "Flush of the copy, no power", c.Flush(), api.ErrDiskDead)
	e = New(1, 64)
	f := e.Copy()
	f.Cut(0)
	gives(t, "Flush of the original", e.Flush(), api.OK)
	gives(t, "Flush of the copy, no power", f.Flush(), api.ErrDiskDead)
}

// model does what the chapter says, sector by sector.
type model struct {
	durable, now [][]byte
	fresh        []bool
	left         int // less than 0: no failure is scheduled
	dead         bool
}

func newModel(n int) *model {
	m := &model{fresh: make([]bool, n), left: -1}
	for range n {
		m.durable, m.now = append(m.durable, full(0)), append(m.now, full(0))
	}
	return m
}

func (m *model) copy() *model {
	return &model{durable: slices.Clone(m.durable), now: slices.Clone(m.now), fresh: slices.Clone(m.fresh), left: m.left, dead: m.dead}
}

func (m *model) draw() api.Errno {
	if m.dead || m.left == 0 {
		m.dead = true
		return api.ErrDiskDead
	}
	m.left = max(m.left-1, -1)
	return api.OK
}

func (m *model) write(i int, b []byte) api.Errno {
	switch {
	case m.dead:
		return api.ErrDiskDead
	case i < 0 || i >= len(m.now):
		return api.ErrDiskPlace
	case len(b) != 64:
		return api.ErrDiskSize
	}
	err := m.draw()
	if err == api.OK {
		m.now[i], m.fresh[i] = b, true
	}
	return err
}

func (m *model) flush() api.Errno {
	err := m.draw()
	if err == api.OK {
		m.durable, m.fresh = slices.Clone(m.now), make([]bool, len(m.now))
	}
	return err
}

func (m *model) crash(keep uint64, torn, at int) {
	k := 0
	for i := range m.now {
		if !m.fresh[i] {
			continue
		}
		cut := 0
		if k == torn {
			cut = min(max(at, 0), 64)
		} else if keep&(1<<(k%64)) != 0 {
			cut = 64
		}
		m.now[i] = append(slices.Clone(m.now[i][:cut]), m.durable[i][cut:]...)
		k++
	}
	m.durable, m.fresh = slices.Clone(m.now), make([]bool, len(m.now))
	m.left, m.dead = -1, false
}

// same tells of each difference between a disk and its model.
func same(t *testing.T, d *Disk, m *model) {
	t.Helper()
	if d.Dead() != m.dead || d.Sectors() != len(m.now) || d.Size() != 64 {
		t.Fatalf("Dead %v, want %v", d.Dead(), m.dead)
	}
	for i, want := range m.now {
		if m.dead {
			fails(t, "no power", d, i, api.ErrDiskDead)
		} else {
			holds(t, "as the model", d, i, want)
		}
	}
	if t.Failed() {
		t.FailNow()
	}
}

// step makes one call on both, and tells of a different answer.
func step(t *testing.T, r *numbers, d *Disk, m *model) {
	t.Helper()
	n := len(m.now)
	switch r.next(20) {
	case 0:
		gives(t, "Flush", d.Flush(), m.flush())
	case 1:
		k := r.next(12) - 2
		d.Cut(k)
		m.left = max(k, 0)
	case 2, 3:
		keep, torn, at := r.bits(), r.next(n+4)-2, r.next(80)-8
		d.Crash(keep, torn, at)
		m.crash(keep, torn, at)
	case 4:
		b := make([]byte, r.next(80))
		gives(t, "Write", d.Write(0, b), m.write(0, b))
	default:
		i, b := r.next(n+2)-1, full(byte(r.next(5)))
		gives(t, "Write", d.Write(i, b), m.write(i, b))
	}
}

// P3.1, P3.2, P3.3: rows of all calls, on disks and on copies of them.
func TestAsModel(t *testing.T) {
	r := &numbers{7}
	for _, n := range []int{1, 2, 5, 70, 150} {
		for range 10 {
			d, m := New(n, 64), newModel(n)
			for range 100 {
				before, was := d.Copy(), m.copy()
				for range r.next(n) + 1 {
					step(t, r, d, m)
				}
				same(t, d, m)
				same(t, before, was)
				if r.next(4) == 0 {
					step(t, r, before, was)
					same(t, before, was)
					same(t, d, m)
					d, m = before, was
				}
			}
		}
	}
}
