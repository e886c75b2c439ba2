package recs

import (
	"strings"

	"wringer/api"
	"wringer/crc"
	"wringer/disk"
	"wringer/num"
)

const (
	mark     = "WR" // what a head begins with
	numSize  = 5    // bytes of a number
	headSize = 8    // bytes of a head that its sum is of
	sumSize  = 4    // bytes of that sum
)

// bodySize tells how many bytes a file's body has.
func bodySize(width, count int) int {
	if width == 0 {
		return count
	}
	return numSize * width * count
}

// head tells a file's head, without the 0 behind it.
func head(width, count int) string {
	// A count is a number, and the head is a short text: neither can be refused.
	many, _ := num.Put(uint64(count))
	framed, _ := crc.Frame(mark + string([]byte{byte(width)}) + many)
	return framed
}

// parseHead tells the width and the count of a head, which may be more than a file can have.
func parseHead(s string) (int, uint64, api.Errno) {
	width := int(s[len(mark)])
	if !strings.HasPrefix(s, mark) || width > api.MaxWidth || !isZero(s[headSize+sumSize:]) {
		return 0, 0, api.ErrForm
	}
	framed, e := crc.Open(s[:headSize+sumSize])
	if e != api.OK {
		return 0, 0, e
	}
	count, e := num.Get(framed[headSize-numSize:])
	return width, count, e
}

// isZero tells whether all bytes are 0.
func isZero(s string) bool { return strings.Trim(s, "\x00") == "" }

// write makes a file, if there may be one of that width and count. Its head is written when its body is synced: no crash leaves a head without what it tells of.
func write(d api.Disk, name string, width, count int, body string) (api.Disk, api.Errno) {
	need, e := Need(width, uint64(count))
	if e != api.OK {
		return refuse(d)
	}
	d, e = disk.New(d, name, need)
	if e == api.OK {
		d, e = put(d, name, 1, body)
	}
	if e == api.OK {
		d, e = put(d, name, 0, head(width, count))
	}
	return d, e
}

// refuse tells that there is no such file, beside the disk as it was: freeing nothing has it be in new memory, and zero if it is not right.
func refuse(d api.Disk) (api.Disk, api.Errno) {
	d, _ = disk.Free(d)
	return d, api.ErrRange
}

// put writes a text from a sector on, with 0 behind it, and syncs the disk.
func put(d api.Disk, name string, at int, text string) (api.Disk, api.Errno) {
	for ; text != ""; at++ {
		size := min(len(text), api.SectorSize)
		sector := text[:size] + strings.Repeat("\x00", api.SectorSize-size)
		text = text[size:]
		var e api.Errno
		if d, e = disk.Write(d, name, at, sector); e != api.OK {
			return d, e
		}
	}
	return disk.Sync(d)
}
