package sort

import (
	"errors"

	"wringer/api"
	"wringer/num"
	"wringer/stream"
)

// source is a file of which a new one is made, in an operation at work.
type source struct {
	*stream.Work
	file     *stream.Reader
	name     string
	names    uint64 // how many its records have, if it is sorted
	unsorted error  // why it has none
}

// rank has a new file be made of another one, which build does when it is known how many names that one's records have, and tells how many.
func rank(d api.Disk, budget int, from string, build func(s *source) error) (api.Disk, uint64, api.Cost, api.Errno) {
	names := uint64(0)
	d, c, e := stream.Do(d, budget, func(w *stream.Work) error {
		s := &source{Work: w, name: from}
		if err := s.open(); err != nil {
			return err
		}
		names = s.names
		return build(s)
	})
	if e != api.OK {
		names = 0
	}
	return d, names, c, e
}

// open goes through the file once, to know its names.
func (s *source) open() error {
	var err error
	if s.file, err = s.Open(s.name); err != nil {
		return err
	}
	err = s.each(func(name uint64, _ []uint64) error {
		s.names = name
		return nil
	})
	// That it is not sorted may have to wait for what is told ahead of it.
	if errors.Is(err, api.ErrOrder) {
		s.unsorted = err
		return nil
	}
	return err
}

// each has all records be given to do, with their names. One that is less than the one ahead of it is an error.
func (s *source) each(do func(name uint64, record []uint64) error) error {
	s.file.Rewind()
	name, ahead := uint64(0), []uint64{}
	return s.file.Each(func(record []uint64) error {
		if num.Less(record, ahead) {
			return stream.At(s.name, api.ErrOrder)
		}
		// The first one is no record's like: ahead of it stands an empty one.
		if num.Less(ahead, record) {
			name++
		}
		ahead = record
		return do(name, record)
	})
}
