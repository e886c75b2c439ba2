// Package crc has check sums: see ../../shared/DOC.md and doc/02-crc.md.
package crc

import (
	"strings"

	"wringer/api"
)

// sumSize is how many bytes a sum has in a frame.
const sumSize = 4

// fours has, for each four lowest bits, what four steps of the sum put to the rest by exclusive or.
var fours = [16]uint32{
	0x00000000, 0x1db71064, 0x3b6e20c8, 0x26d930ac,
	0x76dc4190, 0x6b6b51f4, 0x4db26158, 0x5005713c,
	0xedb88320, 0xf00f9344, 0xd6d6a3e8, 0xcb61b38c,
	0x9b64c2b0, 0x86d3d2d4, 0xa00ae278, 0xbdbdf21c,
}

// Sum tells the sum of all texts, one behind the other.
func Sum(s ...string) uint32 {
	sum := uint32(0)
	for _, one := range s {
		sum = More(sum, one)
	}
	return sum
}

// More tells the sum of bytes that have that sum, and s behind them.
func More(sum uint32, s string) uint32 {
	// A sum is told with its bits turned: turned back, it goes on where it was.
	state := ^sum
	for i := range len(s) {
		state ^= uint32(s[i])
		state = state>>4 ^ fours[state&15]
		state = state>>4 ^ fours[state&15]
	}
	return ^state
}

// Frame tells s with its sum behind it.
func Frame(s string) (string, api.Errno) {
	if len(s) > api.MaxText {
		return "", api.ErrRange
	}
	return s + sumBytes(s), api.OK
}

// Open tells what a frame is of.
func Open(f string) (string, api.Errno) {
	if len(f) < sumSize {
		return "", api.ErrShort
	}
	if len(f) > api.MaxText+sumSize {
		return "", api.ErrRange
	}
	end := len(f) - sumSize
	if sumBytes(f[:end]) != f[end:] {
		return "", api.ErrSum
	}
	return strings.Clone(f[:end]), api.OK
}

// Apart tells at how many places two texts part, and where they first do.
func Apart(a, b string) (int, int) {
	if len(a) > len(b) {
		a, b = b, a
	}
	// Where the shorter one has no byte, they part.
	many, first := len(b)-len(a), len(a)
	for i := range len(a) {
		if a[i] != b[i] {
			many++
			first = min(first, i)
		}
	}
	return many, first
}

// sumBytes tells the sum's bytes, the lowest first.
func sumBytes(s string) string {
	sum := Sum(s)
	var l [sumSize]byte
	for i := range l {
		l[i] = byte(sum >> (8 * i))
	}
	return string(l[:])
}
