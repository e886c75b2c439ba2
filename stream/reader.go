package stream

import (
	"iter"
	"slices"
	"strconv"

	"wringer/api"
	"wringer/layout"
	"wringer/num"
	"wringer/pool"
	"wringer/recs"
)

// Reader goes through a file of Count records of one Width, from the first one on. Of a text's file, which has width 0, each byte is a record of one number.
type Reader struct {
	Width  int
	Count  uint64
	work   *Work
	name   string
	told   uint64 // how many records were
	sector int    // the one that was read last
	left   string // what was read, and is in no record that was told
	skip   int    // how many bytes of the next sector are ahead of what is to be told
}

// Open has a reader stand ahead of a file's records.
func (w *Work) Open(name string) (*Reader, error) {
	return w.open(name, func(width int) bool { return width > 0 })
}

// OpenText has a reader stand ahead of a text's bytes.
func (w *Work) OpenText(name string) (*Reader, error) {
	return w.open(name, func(width int) bool { return width == 0 })
}

// open has a reader stand ahead of a file, if its width is right.
func (w *Work) open(name string, isRight func(width int) bool) (*Reader, error) {
	width, count, e := recs.Head(w.all, name)
	if e == api.OK && !isRight(width) {
		e = api.ErrCode
	}
	if e != api.OK {
		return nil, At(name, e)
	}
	// The head was read past the frames: it counts all the same.
	w.Reads++
	return &Reader{Width: width, Count: count, work: w, name: name}, nil
}

// Rewind has the reader stand ahead of the first record again.
func (r *Reader) Rewind() { r.Seek(0) }

// Seek has the reader stand ahead of the record at a place; behind all, if there is none.
func (r *Reader) Seek(place uint64) {
	place = min(place, r.Count)
	at := layout.BodySize(r.Width, int(place))
	r.told, r.sector, r.left, r.skip = place, at/api.SectorSize, "", at%api.SectorSize
}

// Each has all records that were not told yet be given to do, one by one.
func (r *Reader) Each(do func(record []uint64) error) error {
	for record, err := range r.records() {
		if err == nil {
			err = do(record)
		}
		if err != nil {
			return err
		}
	}
	return nil
}

// records tells all that were not told yet, one by one; an error is the last thing that is told.
func (r *Reader) records() iter.Seq2[[]uint64, error] {
	return func(yield func([]uint64, error) bool) {
		for r.told < r.Count {
			record, err := r.Next()
			if !yield(record, err) || err != nil {
				return
			}
		}
	}
}

// Next tells the next record: ErrShort, if there is none.
func (r *Reader) Next() ([]uint64, error) {
	if r.told == r.Count {
		return nil, at(r.name, r.sector, api.ErrShort)
	}
	size := layout.BodySize(r.Width, 1)
	for len(r.left) < size {
		r.sector++
		s, err := r.work.look(r.name, r.sector)
		if err != nil {
			return nil, err
		}
		r.left += s[r.skip:]
		r.skip = 0
	}
	record := split(r.left[:size], r.Width)
	r.left = r.left[size:]
	r.told++
	return record, nil
}

// split tells the numbers of just one record's bytes.
func split(s string, width int) []uint64 {
	if width == 0 {
		return []uint64{uint64(s[0])}
	}
	// Of a width that is right they are never refused.
	l, _ := num.Split(s, width)
	return l[0]
}

// look tells a sector's bytes. Its frame is let go of at once, and keeps them as long as it is not taken.
func (w *Work) look(name string, sector int) (string, error) {
	p, frame, e := pool.Pin(w.Pool, w.show(name, sector), 0)
	w.Pool = p
	if e != api.OK {
		return "", at(name, sector, e)
	}
	s, e := pool.Look(w.Pool, frame)
	if e == api.OK {
		w.Pool, e = pool.Unpin(w.Pool, frame)
	}
	return s, at(name, sector, e)
}

// show has a sector be one of the pool's disk, as an extent of its own, and tells what that is called. Those that no frame holds are there no more.
func (w *Work) show(name string, sector int) string {
	file := slices.Index(w.files, name)
	if file < 0 {
		file = len(w.files)
		w.files = append(w.files, name)
	}
	one := strconv.Itoa(file) + "." + strconv.Itoa(sector)
	if _, is := place(w.Disk, one); is {
		return one
	}
	w.Disk.Extents = slices.DeleteFunc(w.Disk.Extents, func(x api.Extent) bool {
		return !slices.ContainsFunc(w.Frames, func(f api.Frame) bool { return f.Name == x.Name })
	})
	from, _ := place(w.all, name)
	data := w.all.Extents[from].Data[sector*api.SectorSize:][:api.SectorSize]
	at, _ := place(w.Disk, one)
	w.Disk.Extents = slices.Insert(w.Disk.Extents, at, api.Extent{Name: one, Data: data})
	return one
}
