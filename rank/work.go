package rank

import (
	"wringer/api"
	"wringer/room"
	"wringer/stream"
)

// work is an operation at work that has the text of a column and a primary.
type work struct {
	*stream.Chain
	column  string
	primary uint64
	to      string
}

// ask tells why there may be no text, but for rows that are never led to the primary.
func (w *work) ask(d api.Disk, budget int) (api.Disk, api.Cost, api.Errno) {
	return stream.Do(d, budget, func(s *stream.Work) error {
		column, err := s.OpenText(w.column)
		if err == nil && column.Count == api.MaxCount {
			err = stream.At(w.column, api.ErrRange)
		}
		if err == nil {
			err = s.May(w.to, 0, column.Count)
		}
		if err == nil {
			err = s.Needs(w.to, ofText(budget, column.Count))
		}
		if err == nil && !isPrimary(w.primary, column.Count) {
			err = stream.At(w.column, api.ErrCode)
		}
		return err
	})
}

// ofText tells how many sectors are needed for the text of a column of so many bytes: those of its leads, and of how far its rows are by these, or of its places' bytes, and of their sort. What is made of these needs no more.
func ofText(budget int, count uint64) int {
	rows := count + 1
	return max(room.OfFile(pairWidth, rows)+ofFar(rows), room.OfFile(pairWidth, count)+room.OfSort(budget, pairWidth, count))
}

// leads has a new file of to which row each row of the column leads.
func (w *work) leads(d api.Disk, budget int, from, to string) (api.Disk, api.Cost, api.Errno) {
	return Leads(d, budget, from, w.primary, to)
}

// far has a new file of how far each row is from the primary, of the row to which each one leads.
func (w *work) far(d api.Disk, budget int, from, to string) (api.Disk, api.Cost, api.Errno) {
	return Far(d, budget, from, w.primary, to)
}

// letters has a new file of the column's bytes, each behind how far its row is from the primary: where that row's end begins, which its byte is ahead of.
func (w *work) letters(d api.Disk, budget int, from, to string) (api.Disk, api.Cost, api.Errno) {
	return stream.Do(d, budget, func(s *stream.Work) error {
		column, err := s.OpenText(w.column)
		if err != nil {
			return err
		}
		far, err := s.Open(from)
		if err != nil {
			return err
		}
		return s.Make(to, pairWidth, column.Count, func(put func(record []uint64) error) error {
			return far.Each(func(row []uint64) error {
				if row[0] == w.primary {
					return nil
				}
				letter, err := column.Next()
				if err != nil {
					return err
				}
				return put([]uint64{row[1], letter[0]})
			})
		})
	})
}
