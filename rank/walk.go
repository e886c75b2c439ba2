package rank

import (
	"wringer/api"
	"wringer/room"
	"wringer/stream"
)

// walk is an operation at work that has each place led to the end, step by step.
type walk struct {
	*stream.Chain
	from  string
	end   uint64
	to    string
	count uint64
	at    string // the file of where each place is led to, and by how many steps: by as many as all others, or to the end, if that is nearer
	left  uint64 // how many places are led elsewhere than to the end by these
}

// ask tells why it may not be had how far places are, but for those that are never led to the end.
func (w *walk) ask(d api.Disk, budget int) (api.Disk, api.Cost, api.Errno) {
	return stream.Do(d, budget, func(s *stream.Work) error {
		leads, err := s.Open(w.from)
		if err != nil {
			return err
		}
		w.count = leads.Count
		if leads.Width != pairWidth || w.end >= w.count {
			return stream.At(w.from, api.ErrRange)
		}
		err = s.May(w.to, pairWidth, w.count)
		if err == nil {
			err = s.Needs(w.to, ofFar(w.count))
		}
		if err == nil {
			err = w.areLeads(leads)
		}
		return err
	})
}

// ofFar tells how many sectors are needed to have how far so many places are: those of two files of steps, or of one and the new file.
func ofFar(count uint64) int { return 2 * room.OfFile(pairWidth, count) }

// areLeads tells an error, if a file has not each place, in order, with one of them, and the end with itself.
func (w *walk) areLeads(leads *stream.Reader) error {
	place := uint64(0)
	return leads.Each(func(record []uint64) error {
		next := record[1]
		if record[0] != place || next >= w.count || place == w.end && next != w.end {
			return stream.At(w.from, api.ErrCode)
		}
		place++
		return nil
	})
}

// double has each place be led by a step, then by twice as many, again and again, till all are led to the end.
func (w *walk) double() error {
	spare := w.Spares(w.to)
	w.at = spare()
	if err := w.recast(w.from, w.at, w.first); err != nil {
		return err
	}
	was := w.count
doubling:
	for {
		switch w.left {
		case 0:
			break doubling
		case was:
			// Of places from which the end is so many steps away, or more, the nearest one would have come there: there are none.
			return stream.At(w.from, api.ErrCode)
		}
		was = w.left
		if err := w.further(spare()); err != nil {
			return err
		}
	}
	return nil
}

// recast has a new file of pairs: of tells what comes of each pair of another one, and its place.
func (w *walk) recast(from, to string, of func(place uint64, pair []uint64) []uint64) error {
	return w.Then(func(d api.Disk, budget int) (api.Disk, api.Cost, api.Errno) {
		return stream.Do(d, budget, func(s *stream.Work) error {
			file, err := s.Open(from)
			if err != nil {
				return err
			}
			return s.Make(to, pairWidth, file.Count, func(put func(record []uint64) error) error {
				place := uint64(0)
				return file.Each(func(pair []uint64) error {
					place++
					return put(of(place-1, pair))
				})
			})
		})
	})
}

// first tells where a place is led to by a step: of the end there is none.
func (w *walk) first(place uint64, lead []uint64) []uint64 {
	if place == w.end {
		return w.led(w.end, 0)
	}
	return w.led(lead[1], 1)
}

// led tells the pair of a place that is led to another one by some steps.
func (w *walk) led(next, steps uint64) []uint64 {
	if next != w.end {
		w.left++
	}
	return []uint64{next, steps}
}

// further has each place be led by twice as many steps as now.
func (w *walk) further(to string) error {
	w.left = 0
	err := w.Then(func(d api.Disk, budget int) (api.Disk, api.Cost, api.Errno) {
		return w.twice(d, budget, w.at, to)
	})
	if err == nil {
		err = w.Free(w.at)
	}
	w.at = to
	return err
}

// twice has a new file of where each place is led to by its steps, and then by those of the place to which they lead.
func (w *walk) twice(d api.Disk, budget int, from, to string) (api.Disk, api.Cost, api.Errno) {
	return stream.Do(d, budget, func(s *stream.Work) error {
		near, err := s.Open(from)
		if err != nil {
			return err
		}
		beyond, err := s.Open(from)
		if err != nil {
			return err
		}
		return s.Make(to, pairWidth, w.count, func(put func(record []uint64) error) error {
			return near.Each(func(one []uint64) error {
				beyond.Seek(one[0])
				other, err := beyond.Next()
				if err != nil {
					return err
				}
				return put(w.led(other[0], one[1]+other[1]))
			})
		})
	})
}

// tell has the new file be of the steps by which each place is led to the end.
func (w *walk) tell() error {
	err := w.recast(w.at, w.to, func(place uint64, pair []uint64) []uint64 {
		return []uint64{place, pair[1]}
	})
	if err == nil {
		err = w.Free(w.at)
	}
	return err
}
