package bits

import "wringer/api"

// work is bits at work: N counts them while they grow, and bytes stand for B, which could not be changed on the spot.
type work struct {
	api.Bitstr
	bytes []byte
}

// begin has a copy of b at work, with room for total bits.
func begin(b api.Bitstr, total int) *work {
	room := make([]byte, 0, bytesFor(total))
	return &work{Bitstr: b, bytes: append(room, b.B...)}
}

// put has a number's bits stand behind those at work; it is known that they fit.
func (w *work) put(v uint64, width int) {
	for width > 0 {
		if w.N%8 == 0 {
			w.bytes = append(w.bytes, 0)
		}
		left := 8 - w.N%8
		step := min(left, width)
		part := v >> (width - step) & (1<<step - 1)
		w.bytes[w.N/8] |= byte(part << (left - step))
		w.N += step
		width -= step
	}
}

// gather has n bits of another stand behind those at work, as many at a time as a number has.
func (w *work) gather(b api.Bitstr, at, n int) {
	for n > 0 {
		step := min(n, most)
		w.put(number(b, at, step), step)
		at += step
		n -= step
	}
}

// turn has the i-th bit be the other one.
func (w *work) turn(i int) {
	w.bytes[i/8] ^= 1 << (7 - i%8)
}

// gathered has no room behind it: what would be put behind cannot reach what is at work.
func (w *work) gathered() []byte {
	return w.bytes[:len(w.bytes):len(w.bytes)]
}

// done hands the bits out as plain ones.
func (w *work) done() api.Bitstr {
	w.B = string(w.gathered())
	return w.Bitstr
}
