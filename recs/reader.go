package recs

import (
	"iter"

	"wringer/api"
	"wringer/disk"
	"wringer/layout"
	"wringer/num"
	"wringer/pool"
)

// reader is one at work: it goes through a file's body by a pool of one frame.
type reader struct {
	api.Pool
	name  string
	width int
	count uint64
	left  string // what was read of the body, and is in no record that was told
}

// open has a reader stand ahead of a file's body.
func open(d api.Disk, name string) (*reader, api.Errno) {
	width, count, e := Head(d, name)
	if e != api.OK {
		return nil, e
	}
	p, e := pool.Make(d, 1)
	return &reader{Pool: p, name: name, width: width, count: count}, e
}

// records tells the file's, one by one; in the end what is left is behind the body.
func (r *reader) records() iter.Seq[[]uint64] {
	return func(yield func([]uint64) bool) {
		size, more := layout.BodySize(r.width, 1), r.count
		for part := range r.sectors() {
			for r.left += part; more > 0 && len(r.left) >= size; more-- {
				// Just one record's bytes, of a width that is right, are never refused.
				l, _ := num.Split(r.left[:size], r.width)
				r.left = r.left[size:]
				if !yield(l[0]) {
					return
				}
			}
		}
	}
}

// sectors tells those of the body, one by one.
func (r *reader) sectors() iter.Seq[string] {
	return func(yield func(string) bool) {
		// A disk that could be made a pool of, and had the head, has the name.
		many, _ := disk.Sectors(r.Disk, r.name)
		for i := 1; i < many; i++ {
			if s, e := r.sector(i); e != api.OK || !yield(s) {
				return
			}
		}
	}
}

// sector tells one sector's bytes. The pool that held it is let go of, and the reader's own has its frame free for the next one.
func (r *reader) sector(i int) (string, api.Errno) {
	p, frame, e := pool.Pin(r.Pool, r.name, i)
	if e != api.OK {
		return "", e
	}
	return pool.Look(p, frame)
}
