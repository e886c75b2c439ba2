package levels

import (
	"wringer/api"
	"wringer/stream"
)

// askArray tells why the order of a list's ends may not be had.
func (w *work) askArray(d api.Disk, budget int) (api.Disk, api.Cost, api.Errno) {
	return stream.Do(d, budget, func(s *stream.Work) error {
		files, err := w.open(s, w.from)
		if err == nil {
			err = s.Needs(w.to, Room(budget, w.count))
		}
		if err == nil {
			err = isList(w.from, files[0])
		}
		return err
	})
}

// askExpand tells why the order of a list's ends may not be had by that of the reduced list's.
func (w *work) askExpand(d api.Disk, budget int) (api.Disk, api.Cost, api.Errno) {
	return stream.Do(d, budget, func(s *stream.Work) error {
		files, err := w.open(s, w.from, w.ends)
		if err == nil && files[1].Count != samples(w.count) {
			err = stream.At(w.ends, api.ErrShort)
		}
		if err == nil {
			err = s.Needs(w.to, ofExpand(budget, w.count))
		}
		if err == nil {
			err = isList(w.from, files[0])
		}
		if err == nil {
			err = files[1].Once()
		}
		return err
	})
}

// askInverse tells why it may not be had at which places a file has its numbers.
func (w *work) askInverse(d api.Disk, budget int) (api.Disk, api.Cost, api.Errno) {
	return stream.Do(d, budget, func(s *stream.Work) error {
		files, err := w.open(s, w.from)
		if err == nil {
			err = s.Needs(w.to, ofPairs(budget, w.count))
		}
		if err == nil {
			err = files[0].Once()
		}
		return err
	})
}

// open has readers of files of numbers, the first of which tells how many the new file has, if there may be such a one.
func (w *work) open(s *stream.Work, names ...string) ([]*stream.Reader, error) {
	files := make([]*stream.Reader, 0, len(names))
	for _, name := range names {
		file, err := s.Open(name)
		if err != nil {
			return nil, err
		}
		files = append(files, file)
	}
	for i, file := range files {
		if file.Width != 1 {
			return nil, stream.At(names[i], api.ErrRange)
		}
	}
	w.count = files[0].Count
	return files, s.May(w.to, 1, w.count)
}

// isList tells an error, if one of a file's numbers is 0.
func isList(name string, file *stream.Reader) error {
	return file.Each(func(record []uint64) error {
		if record[0] == 0 {
			return stream.At(name, api.ErrCode)
		}
		return nil
	})
}
