package names

import (
	"wringer/api"
	"wringer/stream"
	"wringer/thirds"
)

// triple is three numbers of a list, side by side.
type triple [3]uint64

// list is a list's file, in an operation at work.
type list struct {
	*stream.Reader
	name    string
	samples uint64 // how many it has
}

// open has a list's file stand ahead of its first number, if it is one.
func open(w *stream.Work, name string) (*list, error) {
	file, err := w.Open(name)
	if err != nil {
		return nil, err
	}
	samples, e := Need(file.Count)
	if file.Width != 1 {
		e = api.ErrRange
	}
	return &list{Reader: file, name: name, samples: samples}, stream.At(name, e)
}

// check tells whether one of the numbers is 0, which is an error.
func (l *list) check() error {
	return l.Each(func(record []uint64) error {
		if record[0] == 0 {
			return stream.At(l.name, api.ErrCode)
		}
		return nil
	})
}

// each has the triples of all samples, as their places rise, be given to do, with their numbers as the samples stand.
func (l *list) each(do func(number int, t triple) error) error {
	l.Rewind()
	w := window{place: -len(triple{}), count: int(l.Count), do: do}
	err := l.Each(func(record []uint64) error { return w.shift(record[0]) })
	// Behind the last number there is 0: from the last three places on the window sees it.
	for range w.triple {
		if err == nil {
			err = w.shift(0)
		}
	}
	return err
}

// window is three numbers side by side, that goes through a list of count numbers: place is the first one's. What it sees from a sample on is given to do.
type window struct {
	triple
	place int
	count int
	do    func(number int, t triple) error
}

// shift has the window go on by a place, where it sees one number more.
func (w *window) shift(n uint64) error {
	copy(w.triple[:], w.triple[1:])
	w.triple[len(w.triple)-1] = n
	w.place++
	if number, is := thirds.Number(w.place, w.count); is {
		return w.do(number, w.triple)
	}
	return nil
}
