package names

import (
	"wringer/api"
	"wringer/flow"
	"wringer/room"
	"wringer/stream"
)

const (
	tripleWidth = 4 // numbers of a record that has a triple, and a sample's number behind it
	nameWidth   = 2 // numbers of a record that has a sample's number, and its name behind it
)

// work is a reduction at work: an operation that is made of others.
type work struct {
	*stream.Chain
	from  string
	to    string
	names uint64 // how many there are, when they are told
}

// ask tells why a list may not be made less, but for its numbers: Triples asks for these, ahead of the first write.
func (w *work) ask(d api.Disk, budget int) (api.Disk, api.Cost, api.Errno) {
	return stream.Do(d, budget, func(s *stream.Work) error {
		l, err := open(s, w.from)
		if err == nil {
			err = s.May(w.to, 1, l.samples)
		}
		if err == nil {
			err = s.Needs(w.to, need(budget, l.samples))
		}
		return err
	})
}

// need tells how many sectors are needed for so many samples: those of the triples' file, and of its sort. Later files have fewer numbers to a record, and need no more.
func need(budget int, samples uint64) int {
	return room.OfFile(tripleWidth, samples) + room.OfSort(budget, tripleWidth, samples)
}

// name has a new file of samples' numbers and names, of a file of triples in order.
func (w *work) name(d api.Disk, budget int, from, to string) (api.Disk, api.Cost, api.Errno) {
	return stream.Do(d, budget, func(s *stream.Work) error {
		file, err := s.Open(from)
		if err != nil {
			return err
		}
		return s.Make(to, nameWidth, file.Count, func(put func(record []uint64) error) error {
			ahead := triple{}
			return file.Each(func(record []uint64) error {
				t := triple(record)
				// The first one is not like the one ahead, though it may be all 0: there is none.
				if w.names == 0 || t != ahead {
					w.names++
				}
				ahead = t
				return put([]uint64{record[len(t)], w.names})
			})
		})
	})
}

// strip has a new file of names, of a file of numbers and names.
func strip(d api.Disk, budget int, from, to string) (api.Disk, api.Cost, api.Errno) {
	return flow.Cols(d, budget, from, to, 1)
}
