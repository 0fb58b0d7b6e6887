package wal

import (
	"bytes"

	"augur/api"
	"augur/disk"
	"augur/sum"
)

// A frame is a mark, the length of its body, a checksum of both, and the body: each record's length and bytes. Zeros fill its last sector.
const (
	markAt      = 0
	lengthAt    = 1
	checkAt     = lengthAt + numberBytes
	bodyAt      = checkAt + numberBytes
	numberBytes = 4
)

// The marks. A sector of zeros ends the log, as a frame whose mark has not been set does.
const (
	unmarked byte = iota
	marked
)

// sectors returns how many sectors the records' frame takes; no records have none.
func sectors(records [][]byte, size int) int {
	if len(records) == 0 {
		return 0
	}
	n := bodyAt
	for _, r := range records {
		n += numberBytes + len(r)
	}
	return (n + size - 1) / size
}

// frame returns the sectors of the records' frame, and one of zeros: the log must end there before the frame counts.
func frame(mark byte, records [][]byte, size int) []byte {
	b := make([]byte, (sectors(records, size)+1)*size)
	if len(records) == 0 {
		return b
	}
	at := bodyAt
	for _, r := range records {
		putNumber(b[at:], uint32(len(r)))
		at += numberBytes
		at += copy(b[at:], r)
	}
	b[markAt] = mark
	putNumber(b[lengthAt:], uint32(at-bodyAt))
	putNumber(b[checkAt:], sum.Crc(b[lengthAt:checkAt], b[bodyAt:at]))
	return b
}

// putNumber writes n to the first bytes of b, the least significant one first.
func putNumber(b []byte, n uint32) {
	for i := range numberBytes {
		b[i] = byte(n >> (8 * i))
	}
}

// number returns what putNumber has written.
func number(b []byte) (n uint32) {
	for i := range numberBytes {
		n |= uint32(b[i]) << (8 * i)
	}
	return n
}

// stop is the panic that ends the reading: by an error of the disk, or, with OK, by a frame that is not complete.
type stop struct{ err api.Errno }

// need ends the reading unless the frame can be complete.
func need(ok bool) {
	if !ok {
		panic(stop{api.OK})
	}
}

// reader reads the sectors of an area one after another.
type reader struct {
	disk      *disk.Disk
	next, end int    // the sectors that are not read yet
	left      []byte // what is read but not taken yet
}

// frame returns the records of the next frame. The checksum keeps out bytes that a Log hasn't written; for those that one has, the mark decides.
func (r *reader) frame() [][]byte {
	r.left = nil
	h := r.take(bodyAt)
	need(h[markAt] == marked)
	body := r.take(int(number(h[lengthAt:])))
	need(sum.Crc(h[lengthAt:checkAt], body) == number(h[checkAt:]))
	return split(body)
}

// take returns the next n bytes.
func (r *reader) take(n int) []byte {
	// A length that no Log has written must not claim memory.
	need(n <= len(r.left)+(r.end-r.next)*r.disk.Size())
	for len(r.left) < n {
		b, err := r.disk.Read(r.next)
		if err != api.OK {
			panic(stop{err})
		}
		r.left = append(r.left, b...)
		r.next++
	}
	b := r.left[:n]
	r.left = r.left[n:]
	return b
}

// split returns the records of a body, each in memory of its own.
func split(body []byte) (records [][]byte) {
	for len(body) > 0 {
		need(len(body) >= numberBytes)
		n := int(number(body))
		body = body[numberBytes:]
		need(n <= len(body))
		records = append(records, bytes.Clone(body[:n]))
		body = body[n:]
	}
	return records
}
