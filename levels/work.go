package levels

import (
	"slices"

	"wringer/api"
	"wringer/names"
	"wringer/skew"
	"wringer/sort"
	"wringer/stream"
	"wringer/thirds"
)

// pairWidth is how many numbers a record of a pair has: the first one is that by which pairs are sorted.
const pairWidth = 2

// work is an operation at work that is made of others.
type work struct {
	*stream.Chain
	from  string
	to    string
	count uint64        // numbers of the file from
	spare func() string // tells names for files on the way
	lists []level       // those that were made less, each one to the next one
	ends  string        // the file by which the order of the ends of the reduced list below these is known
	by    telling       // how that file tells it
}

// level is a list's file, and how many numbers it has.
type level struct {
	list  string
	count uint64
}

// recast tells what pair comes of a file's number, and its place.
type recast func(place, number uint64) []uint64

// telling is how a file tells the ranks of the samples of a list of so many numbers: what pair of a sample's place and its rank comes of each of the file's numbers.
type telling func(count uint64) recast

// byEnds is how the order of the reduced list's ends tells ranks.
func byEnds(count uint64) recast {
	return func(place, number uint64) []uint64 { return []uint64{sample(number, count), place + 1} }
}

// byNames is how the reduced list itself does, if its numbers are all unlike.
func byNames(count uint64) recast {
	return func(place, number uint64) []uint64 { return []uint64{sample(place, count), number} }
}

// sample tells the place of a sample of a list of so many numbers, by its number among them.
func sample(number, count uint64) uint64 { return uint64(thirds.Place(int(number), int(count))) }

// down has lists be made less, level by level, till the order of one's ends is known: by names that are all unlike, or as it is put in order at once.
func (w *work) down() error {
	at := level{w.from, w.count}
	for at.count > atOnce(w.Budget) {
		reduced, many, err := w.reduce(at)
		if err != nil {
			return err
		}
		w.lists = append(w.lists, at)
		if many == reduced.count {
			w.ends, w.by = reduced.list, byNames
			return nil
		}
		at = reduced
	}
	w.ends, w.by = w.spare(), byEnds
	err := w.Then(func(d api.Disk, budget int) (api.Disk, api.Cost, api.Errno) {
		return order(d, budget, at.list, w.ends)
	})
	if err != nil {
		return err
	}
	return w.drop(at)
}

// reduce has a list be made less, and tells how many names there are.
func (w *work) reduce(at level) (level, uint64, error) {
	reduced, many := level{w.spare(), samples(at.count)}, uint64(0)
	err := w.Then(func(d api.Disk, budget int) (api.Disk, api.Cost, api.Errno) {
		d, unlike, c, e := names.Reduce(d, budget, at.list, reduced.list)
		many = unlike
		return d, c, e
	})
	return reduced, many, err
}

// up has the order of the ends of each list be known by that of the one below it, till it is that of the first one's.
func (w *work) up() error {
	for _, at := range slices.Backward(w.lists) {
		ranks, ends := w.spare(), w.spare()
		err := w.Through(w.ends, ranks, pair(w.by(at.count)), sort.Sort)
		if err == nil {
			err = w.Free(w.ends)
		}
		if err == nil {
			err = w.expand(at.list, ranks, ends)
		}
		if err == nil {
			err = w.drop(at)
		}
		if err != nil {
			return err
		}
		w.ends, w.by = ends, byEnds
	}
	return w.Move(w.ends, w.to)
}

// drop has a list be no more, but for the one that was handed in.
func (w *work) drop(at level) error {
	if at.list == w.from {
		return nil
	}
	return w.Free(at.list)
}

// expand has a new file of the order of a list's ends, of a file of its samples' ranks, by place, which is no more then.
func (w *work) expand(list, ranks, to string) error {
	ones, others := w.spare(), w.spare()
	err := w.Through(list, others, gather(ranks, part{rest, (*known).sample}), sort.Sort)
	if err == nil {
		err = w.Through(list, ones, gather(ranks, part{firsts, (*known).first}), sort.Sort)
	}
	if err == nil {
		err = w.Free(ranks)
	}
	if err == nil {
		err = w.Then(func(d api.Disk, budget int) (api.Disk, api.Cost, api.Errno) {
			return weave(d, budget, ones, others, to)
		})
	}
	if err == nil {
		err = w.Free(ones, others)
	}
	return err
}

// order has a new file of the order of the ends of a list that fits the budget at once.
func order(d api.Disk, budget int, from, to string) (api.Disk, api.Cost, api.Errno) {
	return stream.Do(d, budget, func(s *stream.Work) error {
		file, err := s.Open(from)
		if err == nil {
			err = s.Lease((int(file.Count)*numberSize + api.SectorSize - 1) / api.SectorSize)
		}
		if err != nil {
			return err
		}
		list := make([]uint64, 0, file.Count)
		err = file.Each(func(record []uint64) error {
			list = append(list, record[0])
			return nil
		})
		if err != nil {
			return err
		}
		ends, e := skew.Ends(list)
		if e != api.OK {
			return stream.At(from, e)
		}
		return s.Make(to, 1, file.Count, func(put func(record []uint64) error) error {
			for _, end := range ends {
				if err := put([]uint64{uint64(end)}); err != nil {
					return err
				}
			}
			return nil
		})
	})
}

// pair has a new file of the pairs that come of another one's numbers and their places.
func pair(of recast) stream.Maker {
	return func(d api.Disk, budget int, from, to string) (api.Disk, api.Cost, api.Errno) {
		return stream.Do(d, budget, func(s *stream.Work) error {
			file, err := s.Open(from)
			if err != nil {
				return err
			}
			return s.Make(to, pairWidth, file.Count, func(put func(record []uint64) error) error {
				place := uint64(0)
				return file.Each(func(record []uint64) error {
					place++
					return put(of(place-1, record[0]))
				})
			})
		})
	}
}
