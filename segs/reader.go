package segs

import (
	"slices"

	"wringer/api"
	"wringer/canon"
	"wringer/zeros"
)

// lastDigit is the greatest symbol of a run.
const lastDigit = 1

// reader reads symbols from a place on, whose codes have these lengths.
type reader struct {
	b       api.Bitstr
	at      int
	lengths []int
}

// next reads the symbol whose code comes next.
func (r *reader) next() (uint64, api.Errno) {
	symbol, behind, e := canon.Read(r.b, r.at, r.lengths)
	if e != api.OK {
		return 0, e
	}
	r.at = behind
	return symbol, api.OK
}

// segment gathers what is read: how often each symbol was there, how far the bytes are, and the digits of a run that has not ended.
type segment struct {
	reader
	tally
	far []byte
	run []uint64
}

// read gathers a whole segment, with the end behind it.
func (s *segment) read() api.Errno {
	for {
		symbol, e := s.next()
		if e != api.OK {
			return e
		}
		s.add(symbol)
		if symbol <= lastDigit {
			s.run = append(s.run, symbol)
			continue
		}
		if !s.endRun() {
			return api.ErrCode
		}
		if symbol == api.EndSymbol {
			return s.check()
		}
		if !s.take(byte(symbol-1), 1) {
			return api.ErrCode
		}
	}
}

// endRun takes the bytes of the run that has come to its end, if there is one, and tells whether there is room for them.
func (s *segment) endRun() bool {
	if len(s.run) == 0 {
		return true
	}
	many, e := zeros.Number(s.run...)
	s.run = s.run[:0]
	return e == api.OK && s.take(0, int(many))
}

// take has a byte stand so often behind the others, and tells whether there is room for that.
func (s *segment) take(far byte, often int) bool {
	if often > api.SegSize-len(s.far) {
		return false
	}
	s.far = append(s.far, slices.Repeat([]byte{far}, often)...)
	return true
}

// check tells whether what was read is a segment, and the lengths are its own.
func (s *segment) check() api.Errno {
	own, e := s.cheapest()
	if e != api.OK || len(s.far) == 0 || !slices.Equal(own, s.lengths) {
		return api.ErrCode
	}
	return api.OK
}
