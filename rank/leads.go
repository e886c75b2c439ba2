package rank

import (
	"wringer/api"
	"wringer/stream"
)

const (
	alphabet    = 1 << 8                              // bytes that there are
	rowSize     = 4                                   // bytes of memory that a row takes
	tableFrames = alphabet * rowSize / api.SectorSize // frames whose memory has a row for each byte
)

// table tells of each byte to which row the last row with it leads; where there was none yet, the row ahead of that to which the first one leads.
type table [alphabet]uint32

// isPrimary tells whether a number may be the primary of a column of so many bytes.
func isPrimary(primary, count uint64) bool {
	return primary <= count && (primary > 0 || count == 0)
}

// lead has a new file of to which row each row of a column leads.
func lead(s *stream.Work, column *stream.Reader, primary uint64, to string) error {
	last, err := less(column)
	if err != nil {
		return err
	}
	column.Rewind()
	return s.Make(to, pairWidth, column.Count+1, func(put func(record []uint64) error) error {
		for row := range column.Count + 1 {
			next := primary
			if row != primary {
				letter, err := column.Next()
				if err != nil {
					return err
				}
				last[letter[0]]++
				next = uint64(last[letter[0]])
			}
			if err := put([]uint64{row, next}); err != nil {
				return err
			}
		}
		return nil
	})
}

// less tells of each byte how many of a column's are less.
func less(column *stream.Reader) (*table, error) {
	t := &table{}
	err := column.Each(func(letter []uint64) error {
		t[letter[0]]++
		return nil
	})
	sum := uint32(0)
	for c, many := range t {
		t[c] = sum
		sum += many
	}
	return t, err
}
