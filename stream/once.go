package stream

import "wringer/api"

const (
	marks    = 16 // frames whose bits are those of some numbers
	byteBits = 8
)

// Once tells an error, if the first numbers of a file's records are not each from 0 to below as many as there are, once. It goes through the file as often as it takes to have a bit for each number, in the memory of frames that stay leased.
func (r *Reader) Once() error {
	if err := r.work.Lease(marks); err != nil {
		return err
	}
	seen := make([]byte, marks*api.SectorSize)
	many := uint64(len(seen) * byteBits)
	for low := uint64(0); low < r.Count; low += many {
		clear(seen)
		r.Rewind()
		err := r.Each(func(record []uint64) error {
			number := record[0]
			if number >= r.Count || number >= low && number-low < many && isMarked(seen, number-low) {
				return at(r.name, r.sector, api.ErrCode)
			}
			return nil
		})
		if err != nil {
			return err
		}
	}
	return nil
}

// isMarked tells whether a number was marked, and marks it.
func isMarked(seen []byte, number uint64) bool {
	place, bit := number/byteBits, byte(1)<<(number%byteBits)
	was := seen[place]&bit != 0
	seen[place] |= bit
	return was
}
