package box

import (
	"errors"
	"strings"

	"wringer/api"
	"wringer/bits"
	"wringer/crc"
)

const (
	begins   = "WRG\x01"                         // what each container begins with
	numSize  = 5                                 // bytes of a number
	sumSize  = 4                                 // bytes of a sum
	headSize = len(begins) + 4*numSize + sumSize // bytes ahead of the bits
	least    = headSize + sumSize                // bytes of a container without bits
)

// seal makes the container of a head and bits.
func seal(h api.Head, b api.Bitstr) (string, error) {
	if e := bits.Check(b); e != api.OK {
		return "", wrong("bits", e)
	}
	head, err := headBytes(h)
	if err != nil {
		return "", err
	}
	if h.Bits != uint64(b.N) {
		return "", wrong("bits' number", api.ErrRange)
	}
	if least+len(b.B) > api.MaxBox {
		return "", wrong("container", api.ErrFull)
	}
	s, e := crc.Frame(head + b.B)
	if e != api.OK {
		return "", wrong("sum", e)
	}
	return s, nil
}

// headBytes are those ahead of a container's bits.
func headBytes(h api.Head) (string, error) {
	room := make([]byte, headSize)
	put, putNumber := putter(room)
	put(begins)
	err := errors.Join(putNumber(h.Count), putNumber(h.Primary))
	put(sumBytes(h.Sum))
	err = errors.Join(err, putNumber(h.Segs), putNumber(h.Bits))
	if err != nil {
		return "", err
	}
	return string(room), nil
}

// readHead tells the head of what looks like a container.
func readHead(s string) (api.Head, error) {
	switch {
	case len(s) < least:
		return api.Head{}, wrong("container", api.ErrShort)
	case len(s) > api.MaxBox:
		return api.Head{}, wrong("container", api.ErrRange)
	case !strings.HasPrefix(s, begins):
		return api.Head{}, wrong("beginning", api.ErrForm)
	}
	body, e := crc.Open(s)
	if e != api.OK {
		return api.Head{}, wrong("sum", e)
	}
	take, takeNumber := taker(body[len(begins):])
	h := api.Head{}
	h.Count, h.Primary = takeNumber(), takeNumber()
	h.Sum = sumOf(take(sumSize))
	h.Segs, h.Bits = takeNumber(), takeNumber()
	return h, nil
}

// readParts tells the head and the bits of what looks like a container.
func readParts(s string) (api.Head, api.Bitstr, error) {
	h, err := readHead(s)
	if err != nil {
		return api.Head{}, api.Bitstr{}, err
	}
	body := s[headSize : len(s)-sumSize]
	if uint64(len(body)) != (h.Bits+7)/8 {
		return api.Head{}, api.Bitstr{}, wrong("bits' number", api.ErrForm)
	}
	b := api.Bitstr{B: strings.Clone(body), N: int(h.Bits)}
	if e := bits.Check(b); e != api.OK {
		return api.Head{}, api.Bitstr{}, wrong("bits", e)
	}
	return h, b, nil
}
