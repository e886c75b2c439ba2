// Package bits has bits one behind the other: see ../../shared/DOC.md and doc/01-bits.md.
package bits

import (
	mathbits "math/bits"
	"strings"

	"wringer/api"
)

// most is how many bits a number has at most.
const most = 64

// Check tells why bits are not right.
func Check(b api.Bitstr) api.Errno {
	if b.N < 0 || b.N > api.MaxBits || len(b.B) != bytesFor(b.N) {
		return api.ErrForm
	}
	if last := b.N % 8; last != 0 && b.B[len(b.B)-1]<<last != 0 {
		return api.ErrForm
	}
	return api.OK
}

// Put has the lowest width bits of v stand behind b's.
func Put(b api.Bitstr, v uint64, width int) (api.Bitstr, api.Errno) {
	if e := Check(b); e != api.OK {
		return api.Bitstr{}, e
	}
	if width < 0 || width > most || v>>width != 0 {
		return same(b), api.ErrRange
	}
	if b.N+width > api.MaxBits {
		return same(b), api.ErrFull
	}
	w := begin(b, b.N+width)
	w.put(v, width)
	return w.done(), api.OK
}

// Get tells the number of the width bits from at on.
func Get(b api.Bitstr, at, width int) (uint64, api.Errno) {
	if e := Check(b); e != api.OK {
		return 0, e
	}
	if width < 0 || width > most || at < 0 || at > b.N {
		return 0, api.ErrRange
	}
	if width > b.N-at {
		return 0, api.ErrShort
	}
	return number(b, at, width), api.OK
}

// Cat puts any many together, one behind the other.
func Cat(b api.Bitstr, more ...api.Bitstr) (api.Bitstr, api.Errno) {
	if e := Check(b); e != api.OK {
		return api.Bitstr{}, e
	}
	total := b.N
	for _, m := range more {
		if e := Check(m); e != api.OK {
			return same(b), e
		}
		total += m.N
		if total > api.MaxBits {
			return same(b), api.ErrFull
		}
	}
	w := begin(b, total)
	for _, m := range more {
		w.gather(m, 0, m.N)
	}
	return w.done(), api.OK
}

// Cut tells the n bits from from on.
func Cut(b api.Bitstr, from, n int) (api.Bitstr, api.Errno) {
	if e := Check(b); e != api.OK {
		return api.Bitstr{}, e
	}
	if from < 0 || n < 0 || from > b.N {
		return api.Bitstr{}, api.ErrRange
	}
	if n > b.N-from {
		return api.Bitstr{}, api.ErrShort
	}
	w := begin(api.Bitstr{}, n)
	w.gather(b, from, n)
	return w.done(), api.OK
}

// Turn has the i-th bit be the other one.
func Turn(b api.Bitstr, i int) (api.Bitstr, api.Errno) {
	if e := Check(b); e != api.OK {
		return api.Bitstr{}, e
	}
	if i < 0 || i >= b.N {
		return same(b), api.ErrRange
	}
	w := begin(b, b.N)
	w.turn(i)
	return w.done(), api.OK
}

// Ones tells how many bits are 1.
func Ones(b api.Bitstr) (int, api.Errno) {
	if e := Check(b); e != api.OK {
		return 0, e
	}
	// No bit behind the last one is 1, so whole bytes may be counted.
	n := 0
	for i := range len(b.B) {
		n += mathbits.OnesCount8(b.B[i])
	}
	return n, api.OK
}

// bytesFor tells how many bytes n bits take.
func bytesFor(n int) int { return (n + 7) / 8 }

// same is b in memory of its own: answers share none with what is handed in, refused or not.
func same(b api.Bitstr) api.Bitstr {
	return api.Bitstr{B: strings.Clone(b.B), N: b.N}
}

// number tells the number of bits that are known to be there.
func number(b api.Bitstr, at, width int) uint64 {
	v := uint64(0)
	for width > 0 {
		left := 8 - at%8
		step := min(left, width)
		part := uint64(b.B[at/8]) >> (left - step) & (1<<step - 1)
		v = v<<step | part
		at += step
		width -= step
	}
	return v
}
