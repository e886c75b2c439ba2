package box

import (
	"wringer/api"
	"wringer/num"
)

// putter tells two functions that put bytes, and a number's bytes, where a room is left.
func putter(left []byte) (put func(part string), putNumber func(n uint64) error) {
	put = func(part string) { left = left[copy(left, part):] }
	putNumber = func(n uint64) error {
		part, e := num.Put(n)
		if e != api.OK {
			return wrong("number", e)
		}
		put(part)
		return nil
	}
	return put, putNumber
}

// taker tells two functions that take so many bytes, and a number, from where a text is left; there have to be as many.
func taker(left string) (take func(many int) string, takeNumber func() uint64) {
	take = func(many int) string {
		part := left[:many]
		left = left[many:]
		return part
	}
	takeNumber = func() uint64 {
		// It has five bytes, so that it is one.
		n, _ := num.Get(take(numSize))
		return n
	}
	return take, takeNumber
}

// sumBytes are a sum's bytes, the lowest first.
func sumBytes(sum uint32) string {
	l := [sumSize]byte{}
	for i := range l {
		l[i] = byte(sum >> (8 * i))
	}
	return string(l[:])
}

// sumOf is the sum whose bytes these are.
func sumOf(part string) uint32 {
	sum := uint32(0)
	for i := range len(part) {
		sum |= uint32(part[i]) << (8 * i)
	}
	return sum
}
