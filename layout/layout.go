// Package layout has how a file lies in its sectors: its head, and its body (see ../../shared/doc/06-recs.md).
package layout

import (
	"strings"

	"wringer/api"
	"wringer/crc"
	"wringer/num"
)

const (
	mark     = "WR" // what a head begins with
	numSize  = 5    // bytes of a number
	headSize = 8    // bytes of a head that its sum is of
	sumSize  = 4    // bytes of that sum
)

// BodySize tells how many bytes a file's body has.
func BodySize(width, count int) int {
	if width == 0 {
		return count
	}
	return numSize * width * count
}

// Head tells a file's head, without the 0 behind it.
func Head(width, count int) string {
	// A count is a number, and the head is a short text: neither can be refused.
	many, _ := num.Put(uint64(count))
	framed, _ := crc.Frame(mark + string([]byte{byte(width)}) + many)
	return framed
}

// ParseHead tells the width and the count of a head's sector; the count may be more than a file can have.
func ParseHead(s string) (int, uint64, api.Errno) {
	if len(s) != api.SectorSize || !strings.HasPrefix(s, mark) || !IsZero(s[headSize+sumSize:]) {
		return 0, 0, api.ErrForm
	}
	width := int(s[len(mark)])
	if width > api.MaxWidth {
		return 0, 0, api.ErrForm
	}
	framed, e := crc.Open(s[:headSize+sumSize])
	if e != api.OK {
		return 0, 0, e
	}
	count, e := num.Get(framed[headSize-numSize:])
	return width, count, e
}

// Sector tells what a sector has of a text that fits into one: the text, and 0 behind it.
func Sector(s string) string {
	return s + strings.Repeat("\x00", max(0, api.SectorSize-len(s)))
}

// IsZero tells whether all bytes are 0.
func IsZero(s string) bool { return strings.Trim(s, "\x00") == "" }
