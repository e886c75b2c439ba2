package recs

import (
	"wringer/api"
	"wringer/disk"
	"wringer/layout"
)

// write makes a file, if there may be one of that width and count. Its head is written when its body is synced: no crash leaves a head without what it tells of.
func write(d api.Disk, name string, width, count int, body string) (api.Disk, api.Errno) {
	need, e := Need(width, uint64(count))
	if e != api.OK {
		return refuse(d)
	}
	d, e = disk.New(d, name, need)
	if e == api.OK {
		d, e = put(d, name, 1, body)
	}
	if e == api.OK {
		d, e = put(d, name, 0, layout.Head(width, count))
	}
	return d, e
}

// refuse tells that there is no such file, beside the disk as it was: freeing nothing has it be in new memory, and zero if it is not right.
func refuse(d api.Disk) (api.Disk, api.Errno) {
	d, _ = disk.Free(d)
	return d, api.ErrRange
}

// put writes a text from a sector on, with 0 behind it, and syncs the disk.
func put(d api.Disk, name string, at int, text string) (api.Disk, api.Errno) {
	for ; text != ""; at++ {
		size := min(len(text), api.SectorSize)
		sector := layout.Sector(text[:size])
		text = text[size:]
		var e api.Errno
		if d, e = disk.Write(d, name, at, sector); e != api.OK {
			return d, e
		}
	}
	return disk.Sync(d)
}
