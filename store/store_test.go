package store

import (
	"maps"
	"slices"
	"strings"
	"testing"
	"unsafe"

	"augur/api"
	"augur/disk"
	"augur/wal"
)

// numbers is a fixed row of numbers.
type numbers struct{ x uint64 }

func (r *numbers) next(n int) int {
	r.x = r.x*6364136223846793005 + 1442695040888963407
	return int(r.x >> 33 % uint64(n))
}

// text returns up to long bytes of any value.
func (r *numbers) text(long int) string {
	b := make([]byte, r.next(long+1))
	for i := range b {
		b[i] = byte(r.next(256))
	}
	return string(b)
}

// batch returns fewer than most pairs of a few keys, a quarter of them gone, with values of up to long bytes.
func (r *numbers) batch(most, long int) []Pair {
	var l []Pair
	for range r.next(most) {
		l = append(l, Pair{strings.Repeat("a", r.next(4)) + strings.Repeat("\xff", r.next(3)), r.text(long), r.next(4) == 0})
	}
	return l
}

func set(key, value string) Pair { return Pair{Key: key, Value: value} }

func gone(key string) Pair { return Pair{Key: key, Gone: true} }

func zeros(n int) string { return strings.Repeat("\x00", n) }

// model is what a store is promised to be.
type model map[string]string

// after returns the model behind the changes.
func (m model) after(pairs ...Pair) model {
	next := model{}
	maps.Copy(next, m)
	for _, p := range pairs {
		if p.Gone {
			delete(next, p.Key)
		} else {
			next[p.Key] = p.Value
		}
	}
	return next
}

// cost returns what the promises about space count for pairs.
func (m model) cost() int {
	n := 0
	for k, v := range m {
		n += len(k) + len(v) + 64
	}
	return n
}

func (m model) pairs() []Pair {
	var l []Pair
	for _, k := range slices.Sorted(maps.Keys(m)) {
		l = append(l, set(k, m[k]))
	}
	return l
}

// like tells whether a store answers as the model does.
func like(s *Store, m model) bool {
	n := 0
	for k, v := range m {
		if w, ok := s.Get(k); !ok || w != v {
			return false
		}
		n += len(k) + len(v)
	}
	return slices.Equal(s.Keys(""), slices.Sorted(maps.Keys(m))) && s.Size() == n
}

// must opens the store of a disk that has power.
func must(t *testing.T, d *disk.Disk) *Store {
	t.Helper()
	s, err := Open(d)
	if err != api.OK || s == nil || s.Down() {
		t.Fatalf("Open: %v", err)
	}
	return s
}

// gives tells of a call that does not return want.
func gives(t *testing.T, what string, err, want api.Errno) {
	t.Helper()
	if err != want {
		t.Fatalf("%s: %v, want %v", what, err, want)
	}
}

// is tells of a store that isn't like the model.
func is(t *testing.T, what string, s *Store, m model) {
	t.Helper()
	if !like(s, m) {
		t.Fatalf("%s: keys %.60q, size %d, want %.60q", what, s.Keys(""), s.Size(), slices.Sorted(maps.Keys(m)))
	}
}

// holds tells of a store that isn't like the model now, or when it is opened again. It opens a copy, so that the disk is as it was.
func holds(t *testing.T, what string, s *Store, d *disk.Disk, m model) {
	t.Helper()
	is(t, what, s, m)
	is(t, what+", opened again", must(t, d.Copy()), m)
}

// filled returns a disk with a log of these records.
func filled(t *testing.T, records ...[]byte) *disk.Disk {
	t.Helper()
	d := disk.New(64, 512)
	l, _, err := wal.Open(d)
	gives(t, "Open of the log", err, api.OK)
	gives(t, "Commit to the log", l.Commit(records...), api.OK)
	return d
}

// refuses tells of an Open that does not return want and nothing else.
func refuses(t *testing.T, what string, d *disk.Disk, want api.Errno) {
	t.Helper()
	if s, err := Open(d); s != nil || err != want {
		t.Errorf("%s: Open: %v, %v, want %v", what, s, err, want)
	}
}

// P5.1: Open returns the error of the log, in its order.
func TestOpenErrors(t *testing.T) {
	for _, c := range [][2]int{{9, 512}, {15, 512}, {16, 127}, {1, 64}} {
		d := disk.New(c[0], c[1])
		refuses(t, "too small", d, api.ErrForm)
		d.Cut(0)
		d.Flush()
		refuses(t, "too small, no power", d, api.ErrForm)
	}
	d := filled(t, []byte("x"))
	d.Cut(0)
	d.Flush()
	refuses(t, "no power, and no store", d, api.ErrDiskDead)
	d.Crash(0, -1, 0)
	refuses(t, "no store", d, api.ErrForm)
	is(t, "the smallest disk", must(t, disk.New(16, 128)), nil)
}

// P5.1: a log with a record that no store has written is none of a store.
func TestOpenForm(t *testing.T) {
	for _, p := range []Pair{set("", ""), set("k", "value"), gone(""), gone("k"), set(zeros(200), zeros(300))} {
		whole := record(p)
		is(t, "a store's record", must(t, filled(t, whole)), model{}.after(p))
		for n := range whole {
			refuses(t, "a part of a record", filled(t, whole[:n]), api.ErrForm)
			refuses(t, "a part of a record, at its end", filled(t, whole[n+1:]), api.ErrForm)
		}
		for _, b := range []string{"\x00", "\x01", "\x00\x00", "x", string(whole)} {
			long := append(slices.Clone(whole), b...)
			refuses(t, "more than a record", filled(t, long), api.ErrForm)
			refuses(t, "more than a record, ahead of one", filled(t, long, whole), api.ErrForm)
			refuses(t, "more than a record, behind one", filled(t, whole, long), api.ErrForm)
		}
	}
	for _, b := range []string{"", "x", "abc", "\x00", "\x00\x00\x00", "\x01\x00", "\x00\x01k\x01v", "\x01\x00k", "pair", "\x04pair", "\x04pain\x01k\x00\x00", "\x04pair\x01k\x02\x00", "\x04pair\x01k\x01\x00", "\x04pair\x7fk\x00\x00"} {
		refuses(t, "another record", filled(t, []byte(b)), api.ErrForm)
	}
}

// P5.1: records of few bytes, whatever these are, are hardly ever a store's.
func TestOpenOther(t *testing.T) {
	r := &numbers{1}
	for range 300 {
		refuses(t, "other records", filled(t, []byte(r.text(12))), api.ErrForm)
	}
}

// P5.1: a disk of other bytes is an empty store, and one that can be used.
func TestOpenBytes(t *testing.T) {
	r := &numbers{2}
	for i := range 100 {
		d := disk.New(16+r.next(20), 128)
		for j := range d.Sectors() {
			b := make([]byte, 128)
			copy(b, strings.Repeat(r.text(1+i), 128))
			gives(t, "Write", d.Write(j, b), api.OK)
		}
		s := must(t, d)
		is(t, "other bytes", s, nil)
		gives(t, "Apply", s.Apply(set("k", "v")), api.OK)
		d.Crash(0, -1, 0)
		holds(t, "on other bytes", s, d, model{"k": "v"})
	}
}

// P5.1, P5.4: the pairs of a call are applied in their order, those of the next call behind them.
func TestApply(t *testing.T) {
	d := disk.New(100, 512)
	s := must(t, d)
	is(t, "a new disk", s, nil)
	m := model{}
	for _, l := range [][]Pair{
		{set("a", "1"), set("b", "2")},
		{set("k/c", "4"), gone("k/c")},
		{gone("x"), set("x", "5")},
		{set("a", "6"), set("a", "7"), set("b", ""), set("a", "8")},
		{gone("a"), gone("a")},
		{set("", "9")},
		{{"b", "the value of what is gone does not matter", true}},
		{set("", ""), set("\x00", "\x00\xff"), set("\xff", zeros(600))},
		{gone("")},
		{},
	} {
		gives(t, "Apply", s.Apply(l...), api.OK)
		m = m.after(l...)
		holds(t, "Apply", s, d, m)
	}
	d.Crash(0, -1, 0)
	holds(t, "a crash behind Apply", s, d, m)
}

// P5.1: Get tells no value from an empty one.
func TestGet(t *testing.T) {
	s := must(t, disk.New(64, 512))
	gives(t, "Apply", s.Apply(set("k/c", "4"), set("e", ""), set("k", "v")), api.OK)
	gives(t, "Apply", s.Apply(gone("k/c")), api.OK)
	for _, c := range []struct {
		key, value string
		ok         bool
	}{{"k/c", "", false}, {"", "", false}, {"e", "", true}, {"k", "v", true}, {"k/", "", false}, {"K", "", false}} {
		if v, ok := s.Get(c.key); v != c.value || ok != c.ok {
			t.Errorf("Get of %q: %q, %v", c.key, v, ok)
		}
	}
}

// P5.1: Keys returns those with the prefix, in bytewise order.
func TestKeys(t *testing.T) {
	s := must(t, disk.New(64, 512))
	all := []string{"", "\x00", "\x00\x00", "A", "a", "ak/b", "k", "k/", "k/a", "k/a\x00", "k/aa", "k/b", "k0", "\x7f", "\x80", "é", "\xff", "\xff\x00", "\xff\xff"}
	for _, i := range []int{3, 17, 0, 8, 5, 11, 18, 1, 16, 2, 9, 4, 10, 13, 6, 12, 15, 7, 14} {
		gives(t, "Apply", s.Apply(set(all[i], all[i]+"!"), set("gone", "")), api.OK)
	}
	gives(t, "Apply", s.Apply(gone("gone")), api.OK)
	for prefix, want := range map[string][]string{
		"":         all,
		"k/":       {"k/", "k/a", "k/a\x00", "k/aa", "k/b"},
		"k/a":      {"k/a", "k/a\x00", "k/aa"},
		"k/b":      {"k/b"},
		"\xff":     {"\xff", "\xff\x00", "\xff\xff"},
		"\xff\xff": {"\xff\xff"},
		"z":        nil,
		"g":        nil,
		"k/b/":     nil,
	} {
		if got := s.Keys(prefix); !slices.Equal(got, want) {
			t.Errorf("Keys of %q: %q, want %q", prefix, got, want)
		}
	}
}

// P5.1: Size is that of the keys and values that are there.
func TestSize(t *testing.T) {
	s := must(t, disk.New(64, 512))
	for _, c := range []struct {
		p Pair
		n int
	}{{set("", ""), 0}, {set("ab", "cde"), 5}, {set("ab", "f"), 3}, {set("", "four"), 7}, {gone("x"), 7}, {Pair{"ab", "long", true}, 4}, {gone(""), 0}} {
		gives(t, "Apply", s.Apply(c.p), api.OK)
		if s.Size() != c.n {
			t.Errorf("behind %v: Size %d, want %d", c.p, s.Size(), c.n)
		}
	}
}

// P5.1: the key and the value of a pair have MaxRecord - 64 bytes at most, however they share these.
func TestLong(t *testing.T) {
	d := disk.New(4096, 4096)
	s := must(t, d)
	most := api.MaxRecord - 64
	m := model{}
	for _, k := range []int{0, 1, most / 2, most - 1, most} {
		p := set(zeros(k), zeros(most-k))
		gives(t, "Apply of the longest", s.Apply(p), api.OK)
		m = m.after(p)
		holds(t, "the longest", s, d, m)
	}
	for _, k := range []int{0, most, most / 2} {
		gives(t, "Apply of the longest that is gone", s.Apply(Pair{zeros(k), zeros(most - k), true}), api.OK)
		m = m.after(gone(zeros(k)))
	}
	for _, more := range []int{1, 64, 65, api.MaxRecord} {
		for _, k := range []int{0, 3, most, most + more} {
			for _, lost := range []bool{false, true} {
				long := Pair{zeros(k), zeros(most + more - k), lost}
				gives(t, "too long", s.Apply(long), api.ErrRecord)
				gives(t, "too long, first", s.Apply(long, set("a", "b")), api.ErrRecord)
				gives(t, "too long, last", s.Apply(set("a", "b"), gone(zeros(1)), long), api.ErrRecord)
			}
		}
	}
	holds(t, "too long", s, d, m)
}

// P5.1: ErrRecord comes first, then ErrFull, and neither needs the disk; nothing changes.
func TestErrors(t *testing.T) {
	d := disk.New(64, 512)
	s := must(t, d)
	m := model{"a": "1", "b": "2"}
	gives(t, "Apply", s.Apply(m.pairs()...), api.OK)
	long, big := set("l", zeros(api.MaxRecord)), set("b", zeros(64*512))
	d.Cut(0)
	gives(t, "too long", s.Apply(set("a", "3"), long), api.ErrRecord)
	gives(t, "too long, no room", s.Apply(big, long), api.ErrRecord)
	gives(t, "no room", s.Apply(set("a", "3"), big), api.ErrFull)
	if d.Dead() || s.Down() {
		t.Error("a call that is refused has used the disk")
	}
	d.Flush()
	gives(t, "too long, no power", s.Apply(long), api.ErrRecord)
	gives(t, "no room, no power", s.Apply(big), api.ErrFull)
	if s.Down() {
		t.Error("down without ErrDiskDead")
	}
	is(t, "behind errors", s, m)
	gives(t, "no power", s.Apply(set("a", "3")), api.ErrDiskDead)
	gives(t, "too long, down", s.Apply(long), api.ErrDiskDead)
	gives(t, "no room, down", s.Apply(big), api.ErrDiskDead)
	d.Crash(0, -1, 0)
	is(t, "behind errors, opened again", must(t, d), m)
}

// down tells of a store that doesn't stay down, with its pairs, whatever it is asked.
func down(t *testing.T, s *Store, m model) {
	t.Helper()
	if !s.Down() {
		t.Fatal("not down")
	}
	gives(t, "Apply, down", s.Apply(set("q", "1")), api.ErrDiskDead)
	gives(t, "Apply of none, down", s.Apply(), api.ErrDiskDead)
	gives(t, "Compact, down", s.Compact(), api.ErrDiskDead)
	is(t, "down", s, m)
	if !s.Down() {
		t.Fatal("no longer down")
	}
}

// P5.1: a call that finds no power lets the store down for good; a store that is opened again goes on.
func TestDown(t *testing.T) {
	calls := map[string]func(s *Store) api.Errno{
		"Apply":         func(s *Store) api.Errno { return s.Apply(set("a", "3"), gone("b"), set("c", "4")) },
		"Apply of none": func(s *Store) api.Errno { return s.Apply() },
		"Compact":       func(s *Store) api.Errno { return s.Compact() },
	}
	for what, call := range calls {
		for n := 0; ; n++ {
			d := disk.New(64, 512)
			s := must(t, d)
			m := model{"a": "1", "b": "2"}
			gives(t, "Apply", s.Apply(m.pairs()...), api.OK)
			d.Cut(n)
			if call(s) == api.OK {
				if n < 2 || s.Down() {
					t.Errorf("%s: done with power for %d calls, Down %v", what, n, s.Down())
				}
				break
			}
			down(t, s, m)
			d.Crash(0, -1, 0)
			down(t, s, m)
			s = must(t, d)
			gives(t, "Apply, opened again", s.Apply(set("z", "9")), api.OK)
			gives(t, "Compact, opened again", s.Compact(), api.OK)
		}
	}
}

// full returns a disk, and its store with no room behind its log, and pairs of which few are obsolete.
func full(t *testing.T, r *numbers) (*disk.Disk, *Store, model) {
	t.Helper()
	d := disk.New(16+r.next(40), 128+r.next(200))
	s, m := must(t, d), model{}
	for range 10000 {
		p := set(r.text(3), r.text(90))
		if s.Apply(p) == api.ErrFull {
			return d, s, m
		}
		m = m.after(p)
	}
	t.Fatal("never full")
	return nil, nil, nil
}

// roomy returns a disk, and its store with room behind its log, of which much is obsolete, and pairs.
func roomy(t *testing.T, r *numbers) (*disk.Disk, *Store, model) {
	t.Helper()
	d := disk.New(100+r.next(100), 128+r.next(200))
	s, m := must(t, d), model{}
	for range 20 {
		l := append(r.batch(3, 40), set("kept", r.text(40)))
		gives(t, "Apply", s.Apply(l...), api.OK)
		m = m.after(l...)
	}
	return d, s, m
}

// P5.1: a call that changes nothing needs the disk, too, whatever room there is.
func TestNothing(t *testing.T) {
	r := &numbers{3}
	for i := range 40 {
		d, s, m := full(t, r)
		if i%2 == 0 {
			d, s, m = roomy(t, r)
		}
		old := m.pairs()[0]
		for _, l := range [][]Pair{nil, {gone("no such key")}, {old}, {set("new", ""), gone("new")}} {
			gives(t, "Apply of nothing", s.Apply(l...), api.OK)
			holds(t, "Apply of nothing", s, d, m)
			for n := range 2 { // 0: no write, 1: no flush
				e := d.Copy()
				s := must(t, e)
				e.Cut(n)
				gives(t, "Apply of nothing, no power", s.Apply(l...), api.ErrDiskDead)
				down(t, s, m)
			}
		}
	}
}

// fresh returns what an Apply of all pairs at once to the store of an empty disk of this size returns.
func fresh(t *testing.T, d *disk.Disk, m model) api.Errno {
	t.Helper()
	return must(t, disk.New(d.Sectors(), d.Size())).Apply(m.pairs()...)
}

// P5.1: ErrFull means that the pairs would not fit into an empty log either; and what fits there is applied, whatever the log holds.
func TestFull(t *testing.T) {
	r := &numbers{4}
	done, refused := 0, 0
	for range 60 {
		d, s, m := full(t, r)
		for range 60 {
			l := r.batch(6, 1+r.next(200))
			for _, k := range s.Keys("") {
				if r.next(9) == 0 {
					l = append(l, []Pair{gone(k), set(k, r.text(300))}[r.next(2)])
				}
			}
			next := m.after(l...)
			fits := fresh(t, d, next)
			switch err := s.Apply(l...); {
			case err == api.OK:
				m, done = next, done+1
			case err != api.ErrFull || fits == api.OK:
				t.Fatalf("Apply: %v, on an empty disk: %v", err, fits)
			default:
				refused++
			}
			holds(t, "a full store", s, d, m)
		}
	}
	if done < 100 || refused < 100 {
		t.Errorf("%d done, %d refused: the test is none", done, refused)
	}
}

// P5.1: a full store is emptied by a call, however many pairs that has.
func TestEmptied(t *testing.T) {
	r := &numbers{5}
	for range 30 {
		d, s, m := full(t, r)
		var l []Pair
		for k := range m {
			l = append(l, gone(k))
		}
		gives(t, "Apply that empties", s.Apply(l...), api.OK)
		holds(t, "emptied", s, d, nil)
		gives(t, "Apply", s.Apply(set("k", "v")), api.OK)
		holds(t, "emptied, used", s, d, model{"k": "v"})
	}
}

// P5.2: Apply never returns ErrFull as long as all pairs, with those of the call, cost no more than an eighth of the disk without eight sectors.
func TestSpace(t *testing.T) {
	r := &numbers{6}
	sizes := [][2]int{{66, 128}, {80, 128}, {128, 512}, {65, 4096}, {4096, 128}}
	for range 40 {
		sizes = append(sizes, [2]int{70 + r.next(300), 128 + r.next(500)})
	}
	for _, c := range sizes {
		d := disk.New(c[0], c[1])
		s, m := must(t, d), model{}
		most := c[0]*c[1]/8 - 8*c[1]
		for i := range 200 {
			l := upTo(r, most-m.cost())
			if i%4 == 3 { // makes room for others; these are fewer pairs than there were
				l = nil
				for _, p := range m.pairs() {
					if r.next(2) == 0 {
						l = append(l, gone(p.Key))
					}
				}
			}
			gives(t, "Apply of what has room", s.Apply(l...), api.OK)
			m = m.after(l...)
			if i%50 == 0 {
				holds(t, "what has room", s, d, m)
				s = must(t, d)
			}
		}
	}
}

// upTo returns pairs of any keys that cost up to n bytes, often nearly all of these. A key may be there twice.
func upTo(r *numbers, n int) []Pair {
	var l []Pair
	for most := 1 << r.next(12); n >= 64 && r.next(40) > 0; {
		k := min(n-64, r.next(most))
		key := r.text(min(k, 2))
		l = append(l, set(key, zeros(k-len(key))))
		n -= k + 64
	}
	return l
}

// room returns the room behind the log of a disk.
func room(t *testing.T, d *disk.Disk) int {
	t.Helper()
	l, _, err := wal.Open(d.Copy())
	gives(t, "Open of the log", err, api.OK)
	return l.Room()
}

// P5.2: Compact leaves as much room as there is in a new store with the same pairs, and changes none.
func TestCompact(t *testing.T) {
	r := &numbers{7}
	freed := 0
	for i := range 60 {
		d, s, m := full(t, r)
		if i%3 > 0 {
			d, s, m = roomy(t, r)
		}
		before := room(t, d)
		gives(t, "Compact", s.Compact(), api.OK)
		holds(t, "Compact", s, d, m)
		e := disk.New(d.Sectors(), d.Size())
		gives(t, "Apply", must(t, e).Apply(m.pairs()...), api.OK)
		if room(t, d) != room(t, e) {
			t.Fatalf("Room %d, want %d", room(t, d), room(t, e))
		}
		if room(t, d) > before {
			freed++
		}
		s = must(t, d)
		gives(t, "Compact again", s.Compact(), api.OK)
		d.Crash(0, -1, 0)
		holds(t, "Compact again", s, d, m)
	}
	if freed < 40 {
		t.Errorf("%d times room was gained: the test is none", freed)
	}
}

// P5.2: Compact writes to the disk even if it removes nothing.
func TestCompactNothing(t *testing.T) {
	for _, m := range []model{nil, {"a": "1"}} {
		for n := range 2 { // 0: no write, 1: no flush
			d := disk.New(64, 512)
			s := must(t, d)
			gives(t, "Apply", s.Apply(m.pairs()...), api.OK)
			gives(t, "Compact", s.Compact(), api.OK)
			gives(t, "Compact of nothing", s.Compact(), api.OK)
			d.Cut(n)
			gives(t, "Compact, no power", s.Compact(), api.ErrDiskDead)
			down(t, s, m)
			d.Crash(0, -1, 0)
			is(t, "Compact, no power, opened again", must(t, d), m)
		}
	}
}

// crashes returns copies of a disk that have crashed in many ways.
func crashes(r *numbers, d *disk.Disk) []*disk.Disk {
	var out []*disk.Disk
	for i := range 12 {
		c := d.Copy()
		switch i {
		case 0:
			c.Crash(0, -1, 0)
		case 1:
			c.Crash(1<<64-1, -1, 0)
		default:
			c.Crash(uint64(r.next(1<<31)), r.next(8)-2, []int{1, r.next(16), r.next(d.Size() + 1)}[i%3])
		}
		out = append(out, c)
	}
	return out
}

// survives tells of a failure of power at any write or flush of the call that leaves another store than the one before or after it.
func survives(t *testing.T, r *numbers, d *disk.Disk, call func(s *Store) api.Errno, was, next model) {
	t.Helper()
	for n := 0; ; n++ {
		e := d.Copy()
		s := must(t, e)
		e.Cut(n)
		err := call(s)
		for _, f := range crashes(r, e) {
			s := must(t, f)
			if !like(s, next) && (err == api.OK || !like(s, was)) {
				t.Fatalf("power for %d calls, told %v: keys %.60q", n, err, s.Keys(""))
			}
			m := was
			if like(s, next) {
				m = next
			}
			gives(t, "Apply behind a crash", s.Apply(gone("no such key")), api.OK)
			holds(t, "Apply behind a crash", s, f, m)
		}
		if err == api.OK {
			return
		}
		gives(t, "a call without power", err, api.ErrDiskDead)
		is(t, "a call without power", s, was)
	}
}

// P5.3, P5.4: a crash leaves the store before an Apply or the one after it, and none between, whether the log has room for it or is replaced.
func TestCrashApply(t *testing.T) {
	r := &numbers{8}
	for i := range 9 {
		d, _, m := full(t, r)
		if i%3 == 0 {
			d, _, m = roomy(t, r)
		}
		key := m.pairs()[r.next(len(m))].Key
		for _, l := range [][]Pair{
			{gone(key), set(key+"!", "1"), set(key+"?", "2")},
			{set("\x00", ""), gone(key), set("\x00", "3"), gone("none")},
			m.pairs()[:len(m)/2],
			r.batch(6, 30),
		} {
			l := append(l, gone(m.pairs()[0].Key))
			if must(t, d.Copy()).Apply(l...) == api.OK {
				survives(t, r, d, func(s *Store) api.Errno { return s.Apply(l...) }, m, m.after(l...))
			}
		}
	}
}

// P5.3: a crash during Compact leaves all pairs as they are.
func TestCrashCompact(t *testing.T) {
	r := &numbers{9}
	for range 4 {
		d, s, m := full(t, r)
		survives(t, r, d, (*Store).Compact, m, m)
		gives(t, "Compact", s.Compact(), api.OK)
		survives(t, r, d, (*Store).Compact, m, m)
		d, _, m = roomy(t, r)
		survives(t, r, d, (*Store).Compact, m, m)
	}
	survives(t, r, disk.New(16, 128), (*Store).Compact, nil, nil)
}

// P5.1 .. P5.4: lives of many calls, crashes and openings.
func TestLives(t *testing.T) {
	r := &numbers{10}
	for range 200 {
		d := disk.New(16+r.next(60), 128+r.next(200))
		s, m := must(t, d), model{}
		for range 80 {
			if r.next(3) == 0 {
				d.Cut(r.next(15))
			}
			l := r.batch(5, 80)
			call, next := func() api.Errno { return s.Apply(l...) }, m.after(l...)
			if r.next(6) == 0 {
				call, next = s.Compact, m
			}
			switch call() {
			case api.OK:
				m = next
			case api.ErrDiskDead:
				down(t, s, m)
				d.Crash(uint64(r.next(1<<31)), r.next(8)-2, r.next(d.Size()+2))
				if s = must(t, d); like(s, next) {
					m = next
				}
			}
			if r.next(8) == 0 {
				d.Crash(0, -1, 0)
				s = must(t, d)
			}
			is(t, "a life", s, m)
		}
	}
}

// Rule 8: the same calls leave the same bytes, however a map is gone through.
func TestSame(t *testing.T) {
	var first []string
	for range 5 {
		r := &numbers{11}
		d := disk.New(40, 128)
		s := must(t, d)
		for range 100 {
			s.Apply(r.batch(9, 40)...)
			if r.next(20) == 0 {
				gives(t, "Compact", s.Compact(), api.OK)
			}
		}
		var image []string
		for i := range d.Sectors() {
			b, _ := d.Read(i)
			image = append(image, string(b))
		}
		if first != nil && !slices.Equal(first, image) {
			t.Fatal("the same calls, other bytes")
		}
		first = image
	}
}

// Rules 3 and 7: arguments, with what lies behind them, stay as they are and are not kept, nor are answers.
func TestApart(t *testing.T) {
	d := disk.New(64, 512)
	s := must(t, d)
	back := []byte("0123456789")
	text := unsafe.String(&back[0], len(back))
	l := make([]Pair, 3, 5)
	l[0], l[1], l[2] = set(text[:3], text[3:6]), set("b", text), gone("c")
	was := slices.Clone(l[:5])
	for range 30 { // some of them replace the log
		gives(t, "Apply", s.Apply(l...), api.OK)
	}
	if !slices.Equal(l[:5], was) {
		t.Errorf("arguments are changed: %v", l[:5])
	}
	l[0] = set("x", "y")
	copy(back, "----------")
	m := model{"012": "345", "b": "0123456789"}
	holds(t, "arguments changed later", s, d, m)
	keys := s.Keys("")
	clear(keys[:cap(keys)])
	holds(t, "results changed", s, d, m)
	gives(t, "Compact", s.Compact(), api.OK)
	holds(t, "Compact", s, d, m)
}

// Each of several stores on a disk goes on from its own Open and its own calls.
func TestSeveral(t *testing.T) {
	d := disk.New(64, 512)
	a := must(t, d)
	gives(t, "Apply", a.Apply(set("k", "1")), api.OK)
	b := must(t, d)
	gives(t, "Apply", b.Apply(set("k", "2"), set("l", "3")), api.OK)
	is(t, "another store's Apply", a, model{"k": "1"})
	gives(t, "Apply", a.Apply(gone("k")), api.OK)
	is(t, "the first store", a, nil)
	is(t, "the second store", b, model{"k": "2", "l": "3"})
}
