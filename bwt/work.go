package bwt

import (
	"errors"

	"wringer/api"
	"wringer/levels"
	"wringer/room"
	"wringer/stream"
)

// rowWidth is how many numbers a record of a row has: its number, and its byte.
const rowWidth = 2

// work is an operation at work that has a column made by others.
type work struct {
	*stream.Chain
	text    string
	ends    string
	to      string
	primary uint64 // when it is known
}

// column has a column be made by what is told to do, and tells the primary.
func column(d api.Disk, budget int, do func(w *work) error) (api.Disk, uint64, api.Cost, api.Errno) {
	w := &work{}
	d, c, e := stream.Link(d, budget, func(c *stream.Chain) error {
		w.Chain = c
		return do(w)
	})
	if e != api.OK {
		return d, 0, c, e
	}
	return d, w.primary, c, e
}

// askTurn tells why there may be no column by an order, but for its numbers: levels.Inverse asks for these, ahead of the first write.
func (w *work) askTurn(d api.Disk, budget int) (api.Disk, api.Cost, api.Errno) {
	return stream.Do(d, budget, func(s *stream.Work) error {
		text, err := s.OpenText(w.text)
		if err != nil {
			return err
		}
		ends, err := s.Open(w.ends)
		if err == nil && ends.Width != 1 {
			err = stream.At(w.ends, api.ErrRange)
		}
		if err == nil {
			err = s.May(w.to, 0, text.Count)
		}
		if err == nil && ends.Count != text.Count {
			err = stream.At(w.ends, api.ErrShort)
		}
		if err == nil {
			err = s.Needs(w.to, ofTurn(budget, text.Count))
		}
		return err
	})
}

// askColumn tells why there may be no column of a text.
func (w *work) askColumn(d api.Disk, budget int) (api.Disk, api.Cost, api.Errno) {
	return stream.Do(d, budget, func(s *stream.Work) error {
		text, err := s.OpenText(w.text)
		if err == nil {
			err = s.May(w.to, 0, text.Count)
		}
		if err == nil {
			err = s.Needs(w.to, ofColumn(budget, text.Count))
		}
		return err
	})
}

// ofTurn tells how many sectors are needed to turn a text of so many bytes: those of a file of pairs, and of its sort, of rows as of places. Other files have fewer numbers to a record, and need no more.
func ofTurn(budget int, count uint64) int {
	return room.OfFile(rowWidth, count) + room.OfSort(budget, rowWidth, count)
}

// ofColumn tells how many sectors are needed for the column of a text of so many bytes: there is its list, or the order of that one's ends, and what is made of it.
func ofColumn(budget int, count uint64) int {
	return room.OfFile(1, count) + max(levels.Room(budget, count), ofTurn(budget, count))
}

// turn has the column be made by an order of the text's ends.
func (w *work) turn(d api.Disk, budget int, from, to string) (api.Disk, api.Cost, api.Errno) {
	d, primary, c, e := Turn(d, budget, w.text, from, to)
	w.primary = primary
	return d, c, e
}

// rows has a new file of the column's bytes, each behind its row, as they stand in the text, of a file that tells by place where the end from there on stands in the order.
func (w *work) rows(d api.Disk, budget int, from, to string) (api.Disk, api.Cost, api.Errno) {
	return stream.Do(d, budget, func(s *stream.Work) error {
		text, err := s.OpenText(w.text)
		if err != nil {
			return err
		}
		order, err := s.Open(from)
		if err != nil {
			return err
		}
		// The row of the first end, which is the whole text, has no byte.
		if w.primary, err = row(order); err != nil {
			return err
		}
		return s.Make(to, rowWidth, text.Count, func(put func(record []uint64) error) error {
			return text.Each(func(letter []uint64) error {
				behind, err := row(order)
				if err != nil {
					return err
				}
				return put([]uint64{behind, letter[0]})
			})
		})
	})
}

// row tells that of the next end: the empty one's, if there is no other.
func row(order *stream.Reader) (uint64, error) {
	record, err := order.Next()
	if errors.Is(err, api.ErrShort) {
		return 0, nil
	}
	if err != nil {
		return 0, err
	}
	return record[0] + 1, nil
}
