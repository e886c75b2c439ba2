package runs

import (
	"slices"

	"wringer/api"
	"wringer/recs"
	"wringer/stream"
)

// run is a file that is to be made of so many records.
type run struct {
	name string
	many int
}

// plan tells a file's runs, if they may be made.
func plan(w *stream.Work, budget int, file *stream.Reader, prefix string) ([]run, error) {
	size, e := Size(budget, file.Width)
	if e != api.OK {
		return nil, stream.At(prefix, e)
	}
	left, room := int(file.Count), w.Room()
	names, err := choose(prefix, (left+size-1)/size, w.IsThere)
	if err != nil {
		return nil, err
	}
	runs := make([]run, 0, len(names))
	for _, name := range names {
		r := run{name: name, many: min(size, left)}
		left -= r.many
		if room -= need(file.Width, r.many); room < 0 {
			return nil, stream.At(name, api.ErrFull)
		}
		runs = append(runs, r)
	}
	return runs, nil
}

// choose tells the names of so many runs, if there may be such: what none of them is to be, isTaken tells.
func choose(prefix string, many int, isTaken func(name string) bool) ([]string, error) {
	// Where there are no runs, what their names would begin with is asked all the same.
	if !isPrefix(prefix) {
		return nil, stream.At(prefix, api.ErrRange)
	}
	names := make([]string, 0, many)
	for i := range many {
		name, e := Name(prefix, i)
		if e == api.OK && isTaken(name) {
			e = api.ErrTwice
		}
		if e != api.OK {
			return nil, stream.At(name, e)
		}
		names = append(names, name)
	}
	return names, nil
}

// need tells how many sectors a run has.
func need(width, many int) int {
	// The width of a file, and a part of its count, are never refused.
	sectors, _ := recs.Need(width, uint64(many))
	return sectors
}

// cut makes a file's runs, one behind the other.
func cut(w *stream.Work, file *stream.Reader, runs []run) error {
	if len(runs) == 0 {
		return nil
	}
	// No run is longer than the first one; its head is none of what is gathered.
	if err := w.Lease(need(file.Width, runs[0].many) - 1); err != nil {
		return err
	}
	for _, r := range runs {
		if err := fill(w, file, r); err != nil {
			return err
		}
	}
	return nil
}

// fill makes a run of a file's next records.
func fill(w *stream.Work, file *stream.Reader, r run) error {
	records := make([][]uint64, 0, r.many)
	for range r.many {
		record, err := file.Next()
		if err != nil {
			return err
		}
		records = append(records, record)
	}
	slices.SortFunc(records, slices.Compare)
	return w.Make(r.name, file.Width, uint64(r.many), func(put func(record []uint64) error) error {
		for _, record := range records {
			if err := put(record); err != nil {
				return err
			}
		}
		return nil
	})
}
