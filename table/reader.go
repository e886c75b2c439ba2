package table

import (
	"wringer/api"
	"wringer/bits"
)

// reader reads lengths from a place on.
type reader struct {
	b  api.Bitstr
	at int
}

// next reads the number of the next bits.
func (r *reader) next(width int) (uint64, error) {
	number, e := bits.Get(r.b, r.at, width)
	if e != api.OK {
		return 0, e
	}
	r.at += width
	return number, nil
}

// lengths reads as many as are told.
func (r *reader) lengths(n int) ([]int, error) {
	first, err := r.next(head)
	if err != nil {
		return nil, err
	}
	length, l := int(first), []int{}
	for range n {
		if length, err = r.length(length); err != nil {
			return nil, err
		}
		l = append(l, length)
		// No steps lead to the first one.
		if l[0] != int(first) {
			return nil, api.ErrCode
		}
	}
	return l, nil
}

// length reads the steps from the length ahead to the next one, and the 0 behind them.
func (r *reader) length(ahead int) (int, error) {
	length, way := ahead, 0
	for {
		step, err := r.step()
		if err != nil {
			return 0, err
		}
		if step == 0 {
			return length, nil
		}
		length += step
		// A step back from where the last one led is of no length.
		if step == -way || length < 0 || length > api.MaxLength {
			return 0, api.ErrCode
		}
		way = step
	}
}

// step reads how much more the length is behind the next step: 0, where there is none any more.
func (r *reader) step() (int, error) {
	is, err := r.next(1)
	if err != nil || is == 0 {
		return 0, err
	}
	last, err := r.next(1)
	if err != nil {
		return 0, err
	}
	if up|last == down {
		return -1, nil
	}
	return 1, nil
}
