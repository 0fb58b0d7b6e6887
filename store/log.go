package store

import (
	"augur/api"
	"augur/code"
	"augur/wal"
)

// tag begins each record, so that those of another log are not taken for pairs.
const tag = "pair"

// log holds pairs on a disk. It is not a wal.Log but has one: the methods of that one, promoted, would let others into a store past its contents.
type log struct {
	wal  *wal.Log
	down bool
}

// Down tells whether a call has found no power.
func (l *log) Down() bool { return l.down }

// add puts pairs behind those of the log.
func (l *log) add(pairs []Pair) api.Errno { return l.told(l.wal.Commit(records(pairs)...)) }

// replace puts pairs in the place of those of the log.
func (l *log) replace(pairs []Pair) api.Errno { return l.told(l.wal.Reset(records(pairs)...)) }

// told returns the error of a call, and keeps in mind that there was no power for it.
func (l *log) told(err api.Errno) api.Errno {
	if err == api.ErrDiskDead {
		l.down = true
	}
	return err
}

// records returns a record for each pair.
func records(pairs []Pair) [][]byte {
	var out [][]byte
	for _, p := range pairs {
		out = append(out, record(p))
	}
	return out
}

// record encodes a pair. Nothing but its key is needed of one that is gone.
func record(p Pair) []byte {
	w := code.NewWriter()
	w.Text(tag, p.Key)
	w.Bool(p.Gone)
	if !p.Gone {
		w.Text(p.Value)
	}
	return w.Bytes()
}

// pair decodes a record.
func pair(b []byte) (Pair, api.Errno) {
	r := code.NewReader(b)
	own := r.Text() == tag
	p := Pair{Key: r.Text()}
	p.Gone = r.Bool()
	if !p.Gone {
		p.Value = r.Text()
	}
	if !own || r.Done() != api.OK {
		return Pair{}, api.ErrForm
	}
	return p, api.OK
}
