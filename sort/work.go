package sort

import (
	"strconv"

	"wringer/api"
	"wringer/flow"
	"wringer/merge"
	"wringer/room"
	"wringer/runs"
	"wringer/stream"
)

// work is a sort at work: an operation that is made of others.
type work struct {
	*stream.Chain
	from  string
	to    string
	base  string // what the names of files on the way begin with
	files int    // how many there are on the way: each one is sorted, and together they have all records
}

// ask tells why a file may not be sorted.
func (w *work) ask(d api.Disk, budget int) (api.Disk, api.Cost, api.Errno) {
	return stream.Do(d, budget, func(s *stream.Work) error {
		file, err := s.Open(w.from)
		if err == nil {
			err = s.May(w.to, file.Width, file.Count)
		}
		if err == nil {
			err = s.Needs(w.to, room.OfSort(budget, file.Width, file.Count))
		}
		return err
	})
}

// cut makes runs of the file that is to be sorted.
func (w *work) cut(d api.Disk, budget int) (api.Disk, api.Cost, api.Errno) {
	d, files, c, e := runs.Cut(d, budget, w.from, w.prefix(0))
	w.files = files
	return d, c, e
}

// copy has the new file be as the one that is to be sorted.
func (w *work) copy(d api.Disk, budget int) (api.Disk, api.Cost, api.Errno) {
	return flow.Copy(d, budget, w.from, w.to)
}

// merge has all runs be one file, pass by pass, as many of them at a time as the fan-in.
func (w *work) merge() error {
	fan, e := merge.Fan(w.Budget)
	if e != api.OK {
		return stream.At(w.to, e)
	}
passes:
	for pass := 0; ; pass++ {
		if w.files == 1 {
			return w.Move(w.name(pass, 0), w.to)
		}
		for made := 0; ; made++ {
			from, to := made*fan, min(made*fan+fan, w.files)
			if from >= w.files {
				w.files = made
				continue passes
			}
			if err := w.join(w.name(pass+1, made), w.names(pass, from, to)); err != nil {
				return err
			}
		}
	}
}

// join has files on the way be one.
func (w *work) join(to string, names []string) error {
	if len(names) == 1 {
		return w.Move(names[0], to)
	}
	err := w.Then(func(d api.Disk, budget int) (api.Disk, api.Cost, api.Errno) {
		return merge.Merge(d, budget, to, names...)
	})
	if err != nil {
		return err
	}
	return w.Free(names...)
}

// names tells those of the files of a pass from one on, up to another one.
func (w *work) names(pass, from, to int) []string {
	l := make([]string, 0, to-from)
	for i := from; i < to; i++ {
		l = append(l, w.name(pass, i))
	}
	return l
}

// name tells that of a file of a pass.
func (w *work) name(pass, i int) string {
	// Runs are never so many, and their names never so long, that there would be none.
	name, _ := runs.Name(w.prefix(pass), i)
	return name
}

// prefix tells what the names of a pass's files begin with.
func (w *work) prefix(pass int) string { return w.base + strconv.Itoa(pass) }
