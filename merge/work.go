package merge

import (
	"errors"
	"slices"

	"wringer/api"
	"wringer/loser"
	"wringer/num"
	"wringer/stream"
)

// source is a file that is merged, as often as it is named.
type source struct {
	*stream.Reader
	name  string
	times int
}

// open has sources of any many files, if all of them are files of records. A file that is named again is not gone through again: each of its records counts once more.
func open(w *stream.Work, names ...string) ([]*source, error) {
	files := make([]*source, 0, len(names))
	for _, name := range names {
		at := slices.IndexFunc(files, func(f *source) bool { return f.name == name })
		if at < 0 {
			at = len(files)
			file, err := w.Open(name)
			// What is read of it, and waits till it is told, has a frame.
			if err == nil {
				err = w.Lease(1)
			}
			if err != nil {
				return nil, err
			}
			files = append(files, &source{Reader: file, name: name})
		}
		files[at].times++
	}
	return files, nil
}

// sum tells how many records files have together, if those may be one file's.
func sum(files []*source) (uint64, error) {
	count := uint64(0)
	for _, file := range files {
		count += file.Count * uint64(file.times)
		if file.Width != files[0].Width || count > api.MaxCount {
			return 0, stream.At(file.name, api.ErrRange)
		}
	}
	return count, nil
}

// rise tells how many of a file's records stand ahead of the first one that is less than the one ahead of it, which is an error, or how many there are.
func (s *source) rise() (uint64, error) {
	many, ahead := uint64(0), []uint64{}
	err := s.Each(func(record []uint64) error {
		if num.Less(record, ahead) {
			return stream.At(s.name, api.ErrOrder)
		}
		many++
		ahead = record
		return nil
	})
	return many, err
}

// key tells the next record: an empty one, if there is none.
func (s *source) key() ([]uint64, error) {
	record, err := s.Next()
	if errors.Is(err, api.ErrShort) {
		return nil, nil
	}
	return record, err
}

// plant tells the tree of the files' first records.
func plant(files []*source) (api.Loser, error) {
	keys := make([][]uint64, 0, len(files))
	for _, file := range files {
		key, err := file.key()
		if err != nil {
			return api.Loser{}, err
		}
		keys = append(keys, key)
	}
	tree, e := loser.Make(keys...)
	return tree, stream.At(files[0].name, e)
}

// merge puts the records of files that are sorted, the least one first.
func merge(files []*source, put func(record []uint64) error) error {
	tree, err := plant(files)
	for err == nil {
		leaf, record, e := loser.Top(tree)
		if e == api.ErrNone {
			return nil
		}
		if err = files[leaf].tell(record, put); err != nil {
			return err
		}
		tree, err = replace(tree, files[leaf])
	}
	return err
}

// tell puts a record as often as its file is named.
func (s *source) tell(record []uint64, put func(record []uint64) error) error {
	for range s.times {
		if err := put(record); err != nil {
			return err
		}
	}
	return nil
}

// replace has the winner's next record stand in its place.
func replace(tree api.Loser, file *source) (api.Loser, error) {
	key, err := file.key()
	if err != nil {
		return api.Loser{}, err
	}
	tree, e := loser.Put(tree, key...)
	return tree, stream.At(file.name, e)
}
