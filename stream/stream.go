// Package stream has operations through a pool: files are gone through, and made, record by record, in a few frames (see ../../shared/doc/07-flow.md). What an operation reads and puts is told by a function that is handed in.
package stream

import (
	"errors"

	"wringer/api"
	"wringer/disk"
	"wringer/pool"
)

// frames is how many an operation has: one for what is put, the others for what is read. Files are gone through once: more of them would save nothing, and as it is the disk does not hang on the budget.
const frames = 4

// Work is an operation at work: what it reads is pinned in its pool, what it puts is leased there.
type Work struct {
	api.Pool
}

// Do has an operation of a disk be done, and tells the disk that comes of it, and its cost. If it is refused, the disk is as it was, whatever was done.
func Do(d api.Disk, budget int, do func(w *Work) error) (api.Disk, api.Cost, api.Errno) {
	p, e := begin(d, budget)
	if e != api.OK {
		return refuse(d, e)
	}
	w := &Work{Pool: p}
	err := do(w)
	if err != nil && !errors.Is(err, api.ErrPower) {
		return refuse(d, number(err))
	}
	return w.Disk, api.Cost{Reads: w.Reads, Writes: w.Writes, Frames: len(w.Frames)}, number(err)
}

// begin has a pool for an operation, if there may be one of that disk and budget.
func begin(d api.Disk, budget int) (api.Pool, api.Errno) {
	// Room tells a disk that is not right, and one without power.
	if _, e := disk.Room(d); e != api.OK {
		return api.Pool{}, e
	}
	if budget < api.MinBudget {
		return api.Pool{}, api.ErrBudget
	}
	if budget > api.MaxFrames {
		return api.Pool{}, api.ErrRange
	}
	return pool.Make(d, frames)
}

// refuse tells why an operation is not done, beside the disk as it was: freeing nothing has it be in new memory, and zero if it is not right.
func refuse(d api.Disk, e api.Errno) (api.Disk, api.Cost, api.Errno) {
	d, _ = disk.Free(d)
	return d, api.Cost{}, e
}
