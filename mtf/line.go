package mtf

import (
	"bytes"

	"wringer/api"
)

// many is how many bytes there are.
const many = 1 << 8

// line is a row at work.
type line [many]byte

// read tells the row that a text is.
func read(s string) (line, api.Errno) {
	if len(s) != many {
		return line{}, api.ErrForm
	}
	l, seen := line([]byte(s)), [many]bool{}
	for _, c := range l {
		if seen[c] {
			return line{}, api.ErrForm
		}
		seen[c] = true
	}
	return l, api.OK
}

// text tells the row as a text.
func (l line) text() string { return string(l[:]) }

// front moves a byte to the front, and tells how far it was.
func (l *line) front(c byte) byte {
	far := byte(bytes.IndexByte(l[:], c))
	l.take(far)
	return far
}

// take moves the byte that is so far to the front, and tells it.
func (l *line) take(far byte) byte {
	c := l[far]
	copy(l[1:], l[:far])
	l[0] = c
	return c
}

// each has something be done with each byte of a text, and tells what comes of these, and the row behind all.
func each(row, s string, do func(l *line, c byte) byte) (string, string, api.Errno) {
	l, e := read(row)
	if e == api.OK && len(s) > api.MaxText {
		e = api.ErrRange
	}
	if e != api.OK {
		return "", "", e
	}
	made := []byte(s)
	for i, c := range made {
		made[i] = do(&l, c)
	}
	return string(made), l.text(), api.OK
}
