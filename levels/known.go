package levels

import (
	"wringer/api"
	"wringer/stream"
	"wringer/thirds"
)

// knownWidth is how many numbers a record has by which a place's end is held against others.
const knownWidth = 5

// known is what is known of a place, and of the two behind it: their numbers, and the ranks of their ends. Both are 0 behind the list, and ranks where a place is no sample.
type known struct {
	place   int
	numbers [3]uint64
	ranks   [3]uint64
}

// shift has what is known of the two places behind go on to one place ahead each, and the last one be another one.
func (k *known) shift(number, rank uint64) {
	copy(k.numbers[:], k.numbers[1:])
	copy(k.ranks[:], k.ranks[1:])
	k.numbers[len(k.numbers)-1], k.ranks[len(k.ranks)-1] = number, rank
	k.place++
}

// sample tells the record of a sample: the rank of its end, by which such records are sorted, its place, and by what it is held against the ends of places that leave 0; none of such a place.
func (k *known) sample() []uint64 {
	switch k.place % 3 {
	case 1:
		return []uint64{k.ranks[0], uint64(k.place), k.numbers[0], k.ranks[1], 0}
	case 2:
		return []uint64{k.ranks[0], uint64(k.place), k.numbers[0], k.numbers[1], k.ranks[2]}
	}
	return nil
}

// first tells the record of a place that leaves 0: its number, and the rank of the end behind, by which such records are sorted, the number behind, and the rank of the end behind that, and its place; none of a sample.
func (k *known) first() []uint64 {
	if k.place%3 != 0 {
		return nil
	}
	return []uint64{k.numbers[0], k.ranks[1], k.numbers[1], k.ranks[2], uint64(k.place)}
}

// part is some of a list's places: how many there are of so many, and each one's record, of what is known of it; none of the others.
type part struct {
	many func(count uint64) uint64
	of   func(k *known) []uint64
}

// gather has a new file of the records of a part of a list's places, of the ranks of its samples by place.
func gather(ranks string, p part) stream.Maker {
	return func(d api.Disk, budget int, from, to string) (api.Disk, api.Cost, api.Errno) {
		return stream.Do(d, budget, func(s *stream.Work) error {
			list, err := s.Open(from)
			if err != nil {
				return err
			}
			ranked, err := s.Open(ranks)
			if err != nil {
				return err
			}
			return s.Make(to, knownWidth, p.many(list.Count), func(put func(record []uint64) error) error {
				w := over(list, ranked)
				return w.each(func() error {
					if record := p.of(&w.known); record != nil {
						return put(record)
					}
					return nil
				})
			})
		})
	}
}

// window goes through a list, and its samples' ranks: what it sees is what is known of a place.
type window struct {
	known
	list   *stream.Reader
	ranked *stream.Reader
	count  int
}

// over has a window stand ahead of a list: it sees nothing of it.
func over(list, ranked *stream.Reader) *window {
	w := &window{list: list, ranked: ranked, count: int(list.Count)}
	w.place = -len(w.numbers)
	return w
}

// each has something be done at each of the list's places.
func (w *window) each(do func() error) error {
	for w.place < w.count-1 {
		err := w.step()
		if err == nil && w.place >= 0 {
			err = do()
		}
		if err != nil {
			return err
		}
	}
	return nil
}

// step has the window go on by a place, where it sees one more.
func (w *window) step() error {
	seen := w.place + len(w.numbers)
	number, err := last(w.list, seen < w.count)
	if err != nil {
		return err
	}
	_, isSample := thirds.Number(seen, w.count)
	rank, err := last(w.ranked, isSample)
	w.shift(number, rank)
	return err
}

// last tells the last number of a file's next record; 0, if there is none to be told.
func last(file *stream.Reader, is bool) (uint64, error) {
	if !is {
		return 0, nil
	}
	record, err := file.Next()
	if err != nil {
		return 0, err
	}
	return record[file.Width-1], nil
}
