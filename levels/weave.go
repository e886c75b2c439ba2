package levels

import (
	"errors"
	"slices"

	"wringer/api"
	"wringer/stream"
)

// weave has a new file of all places of a list, in the order of their ends, of files of those that leave 0, and of its samples, each in that order.
func weave(d api.Disk, budget int, firsts, samples, to string) (api.Disk, api.Cost, api.Errno) {
	return stream.Do(d, budget, func(s *stream.Work) error {
		ones, err := s.Open(firsts)
		if err != nil {
			return err
		}
		others, err := s.Open(samples)
		if err != nil {
			return err
		}
		return s.Make(to, 1, ones.Count+others.Count, func(put func(record []uint64) error) error {
			l := &line{Reader: ones, put: put}
			if err := l.step(); err != nil {
				return err
			}
			err := others.Each(func(sample []uint64) error {
				if err := l.tell(func(first []uint64) bool { return isAhead(first, sample) }); err != nil {
					return err
				}
				return put(sample[1:2])
			})
			if err != nil {
				return err
			}
			return l.tell(func([]uint64) bool { return true })
		})
	})
}

// isAhead tells whether the end of a place that leaves 0 is less than that of a sample, of both records.
func isAhead(first, sample []uint64) bool {
	if sample[1]%3 == 1 {
		return slices.Compare(first[:2], sample[2:4]) < 0
	}
	return slices.Compare([]uint64{first[0], first[2], first[3]}, sample[2:]) < 0
}

// line is the places that leave 0, of which the next one's record is known: none, if there is none.
type line struct {
	*stream.Reader
	next []uint64
	put  func(record []uint64) error
}

// step has the next one's record be known.
func (l *line) step() error {
	var err error
	l.next, err = l.Next()
	if errors.Is(err, api.ErrShort) {
		return nil
	}
	return err
}

// tell puts the places as long as they are to stand here.
func (l *line) tell(isHere func(record []uint64) bool) error {
	for l.next != nil && isHere(l.next) {
		if err := l.put(l.next[knownWidth-1:]); err != nil {
			return err
		}
		if err := l.step(); err != nil {
			return err
		}
	}
	return nil
}
