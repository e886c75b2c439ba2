package canon

import (
	"wringer/api"
	"wringer/bits"
)

// counts tells how many codes there are of each length.
type counts [api.MaxLength + 1]int

// count counts the lengths above 0, none of which is above MaxLength.
func count(lengths []int) counts {
	c := counts{}
	for _, length := range lengths {
		if length > 0 {
			c[length]++
		}
	}
	return c
}

// few tells whether there is no code, or just one, of one bit.
func (c counts) few() bool {
	return c == counts{} || c == counts{1: 1}
}

// longest tells how many bits the longest code has: 0, if there is none.
func (c counts) longest() int {
	length := len(c) - 1
	for length > 0 && c[length] == 0 {
		length--
	}
	return length
}

// work is codes at work: of lengths that are right, how many there are of each, and the code that the first one of each has, or would have.
type work struct {
	lengths []int
	counts  counts
	firsts  [api.MaxLength + 1]uint64
}

// begin has the codes of lengths that are right at work.
func begin(lengths []int) *work {
	w := &work{lengths: lengths, counts: count(lengths)}
	for length := 1; length < len(w.firsts); length++ {
		w.firsts[length] = (w.firsts[length-1] + uint64(w.counts[length-1])) << 1
	}
	return w
}

// codes are those of all symbols: 0, of one that has none.
func (w *work) codes() []uint64 {
	next, l := w.firsts, make([]uint64, len(w.lengths))
	for symbol, length := range w.lengths {
		if length > 0 {
			l[symbol] = next[length]
			next[length]++
		}
	}
	return l
}

// parts are the codes of all symbols as bits: no bits, of one that has none.
func (w *work) parts() ([]api.Bitstr, api.Errno) {
	l := make([]api.Bitstr, 0, len(w.lengths))
	for symbol, code := range w.codes() {
		part, e := bits.Put(api.Bitstr{}, code, w.lengths[symbol])
		if e != api.OK {
			return nil, e
		}
		l = append(l, part)
	}
	return l, api.OK
}

// written are the codes of symbols as bits, if each one has a code, and there is room for them.
func (w *work) written(room int, symbols []uint64) ([]api.Bitstr, api.Errno) {
	parts, e := w.parts()
	if e != api.OK {
		return nil, e
	}
	l := []api.Bitstr{}
	for _, symbol := range symbols {
		if symbol >= uint64(len(parts)) {
			return nil, api.ErrRange
		}
		part := parts[symbol]
		if part.N == 0 {
			return nil, api.ErrNone
		}
		if part.N > room {
			return nil, api.ErrFull
		}
		room -= part.N
		l = append(l, part)
	}
	return l, api.OK
}

// has tells whether there is such a code of a length.
func (w *work) has(code uint64, length int) bool {
	first := w.firsts[length]
	return code >= first && code-first < uint64(w.counts[length])
}

// symbol tells which one has a code that there is: of those whose codes are as long, as many stand ahead of it as codes are less.
func (w *work) symbol(code uint64, length int) int {
	ahead := code - w.firsts[length]
	for symbol, long := range w.lengths {
		if long != length {
			continue
		}
		if ahead == 0 {
			return symbol
		}
		ahead--
	}
	return 0
}

// first tells the symbol with whose code a number of so many bits begins, and how long that is.
func (w *work) first(number uint64, width int) (int, int, api.Errno) {
	for length := 1; length <= width; length++ {
		code := number >> (width - length)
		if w.has(code, length) {
			return w.symbol(code, length), length, api.OK
		}
	}
	// Where there are longer codes, what begins with none is the beginning of one: they leave no room, or there is one alone, and no bits.
	if w.counts.longest() > width {
		return 0, 0, api.ErrShort
	}
	return 0, 0, api.ErrCode
}
