package table

// head is how many bits the first length has.
const head = 4

// A step's bits.
const (
	up   = 0b10
	down = 0b11
)

// part is some of a table's bits: their number, and how many there are.
type part struct {
	number uint64
	width  int
}

// parts are the bits of lengths, of which there is one at least: those of the first one, and of the steps to each.
func parts(lengths []int) []part {
	ahead := lengths[0]
	l := []part{{number: uint64(ahead), width: head}}
	for _, length := range lengths {
		l = append(l, steps(ahead, length))
		ahead = length
	}
	return l
}

// steps are the bits that lead from the length ahead to the next one, and the 0 behind them.
func steps(ahead, length int) part {
	p, step := part{width: 1}, uint64(up)
	switch {
	case length < ahead:
		// It is as far down as it would be up again.
		step, ahead, length = down, length, ahead
		fallthrough
	case length > ahead:
		for range length - ahead {
			p.number = p.number<<2 | step
			p.width += 2
		}
		p.number <<= 1
	}
	return p
}
