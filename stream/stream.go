// Package stream has operations through a pool: files are gone through, and made, record by record, in a few frames (see ../../shared/doc/07-flow.md). What an operation reads and puts is told by a function that is handed in.
package stream

import (
	"errors"
	"slices"
	"strings"

	"wringer/api"
	"wringer/disk"
	"wringer/pool"
)

// frames is how many an operation has, beside those that it leases for what it gathers: one for what is put, the others for what is read. Files are gone through once: more of them would save nothing, and as it is the disk does not hang on the budget.
const frames = 4

// Work is an operation at work: what it reads is pinned in its pool, what it gathers, and puts, is leased there. Each step of a pool makes new memory of its disk: this one's has no sectors but those that are read.
type Work struct {
	api.Pool
	all    api.Disk // the disk of the operation as it is now: all extents, and nothing that waits
	files  []string // those of which sectors were read
	budget int
}

// Do has an operation of a disk be done, and tells the disk that comes of it, and its cost. If it is refused, the disk is as it was, whatever was done.
func Do(d api.Disk, budget int, do func(w *Work) error) (api.Disk, api.Cost, api.Errno) {
	w, e := begin(d, budget)
	if e != api.OK {
		return refuse(d, e)
	}
	err := do(w)
	if err != nil && !errors.Is(err, api.ErrPower) {
		return refuse(d, number(err))
	}
	return w.all, api.Cost{Reads: w.Reads, Writes: w.Writes, Frames: len(w.Frames)}, number(err)
}

// begin has an operation at work, if there may be one of that disk and budget. What waits is synced, so that there is room for what is written.
func begin(d api.Disk, budget int) (*Work, api.Errno) {
	// Sync tells a disk that is not right, and one without power.
	all, e := disk.Sync(d)
	if e != api.OK {
		return nil, e
	}
	if budget < api.MinBudget {
		return nil, api.ErrBudget
	}
	if budget > api.MaxFrames {
		return nil, api.ErrRange
	}
	none, e := disk.Make(d.Size)
	if e != api.OK {
		return nil, e
	}
	p, e := pool.Make(none, frames)
	return &Work{Pool: p, all: all, budget: budget}, e
}

// refuse tells why an operation is not done, beside the disk as it was: freeing nothing has it be in new memory, and zero if it is not right.
func refuse(d api.Disk, e api.Errno) (api.Disk, api.Cost, api.Errno) {
	d, _ = disk.Free(d)
	return d, api.Cost{}, e
}

// Lease has so many frames more, whose memory is for what the operation gathers: ErrBudget, if its budget has not as many.
func (w *Work) Lease(many int) error {
	if many > w.budget-len(w.Frames) {
		return At("", api.ErrBudget)
	}
	for range many {
		w.Frames = append(w.Frames, api.Frame{Leased: true})
	}
	return nil
}

// IsThere tells whether there is an extent of that name.
func (w *Work) IsThere(name string) bool {
	_, is := place(w.all, name)
	return is
}

// Room tells how many sectors are in no extent.
func (w *Work) Room() int {
	// The disk is right, and where the power went the operation ends.
	room, _ := disk.Room(w.all)
	return room
}

// Needs tells an error, if there is no room for so many sectors, which are needed for a new file of that name, or on the way to it.
func (w *Work) Needs(name string, sectors int) error {
	if w.Room() < sectors {
		return At(name, api.ErrFull)
	}
	return nil
}

// place tells where an extent stands on a disk, or would stand, and whether there is one.
func place(d api.Disk, name string) (int, bool) {
	return slices.BinarySearchFunc(d.Extents, name, func(x api.Extent, sought string) int {
		return strings.Compare(x.Name, sought)
	})
}
