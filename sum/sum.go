// Package sum computes a checksum of byte strings and a fingerprint of a list of strings.
package sum

const (
	crcStart   = 0xffffffff
	printStart = 0xcbf29ce484222325
	printPrime = 0x100000001b3
)

// crcHalf holds what the polynomial edb88320 makes of each half byte. Halves, because a table for whole bytes would be sixteen times as long and gain little.
var crcHalf = [16]uint32{
	0x00000000, 0x1db71064, 0x3b6e20c8, 0x26d930ac,
	0x76dc4190, 0x6b6b51f4, 0x4db26158, 0x5005713c,
	0xedb88320, 0xf00f9344, 0xd6d6a3e8, 0xcb61b38c,
	0x9b64c2b0, 0x86d3d2d4, 0xa00ae278, 0xbdbdf21c,
}

// Crc returns the CRC-32 of the concatenation of parts.
func Crc(parts ...[]byte) uint32 {
	c := uint32(crcStart)
	for _, part := range parts {
		c = crcMore(c, part)
	}
	return ^c
}

// crcMore goes on with a checksum that is not complemented yet.
func crcMore(c uint32, part []byte) uint32 {
	for _, b := range part {
		c ^= uint32(b)
		c = crcHalf[c&15] ^ c>>4
		c = crcHalf[c&15] ^ c>>4
	}
	return c
}

// Print returns the 64-bit FNV-1a hash of the parts, each with its length ahead of it, so that the division into parts counts.
func Print(parts ...string) uint64 {
	h := uint64(printStart)
	for _, part := range parts {
		h = printLength(h, len(part))
		// By index: a range over the string would read runes, not bytes.
		for i := range len(part) {
			h = printByte(h, part[i])
		}
	}
	return h
}

// printLength adds a length as four bytes, most significant byte first.
func printLength(h uint64, n int) uint64 {
	for shift := 24; shift >= 0; shift -= 8 {
		h = printByte(h, byte(n>>shift))
	}
	return h
}

// printByte adds one byte.
func printByte(h uint64, b byte) uint64 {
	return (h ^ uint64(b)) * printPrime
}
