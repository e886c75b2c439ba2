package stream

import (
	"errors"
	"strconv"

	"wringer/api"
	"wringer/disk"
)

// Chain is an operation at work that is made of others, one behind the other, each of which has its budget: the disk as it is now, and what they cost so far.
type Chain struct {
	api.Disk
	api.Cost
	Budget int
}

// Maker is an operation that has a new file of another one.
type Maker func(d api.Disk, budget int, from, to string) (api.Disk, api.Cost, api.Errno)

// Link has an operation of a disk be done that is made of others, and tells the disk that comes of it, and their cost together. If it is refused, the disk is as it was, whatever was done.
func Link(d api.Disk, budget int, do func(c *Chain) error) (api.Disk, api.Cost, api.Errno) {
	c := &Chain{Disk: d, Budget: budget}
	err := do(c)
	if err != nil && !errors.Is(err, api.ErrPower) {
		return refuse(d, number(err))
	}
	return c.Disk, c.Cost, number(err)
}

// Then has one more operation be done, of the disk as it is now.
func (c *Chain) Then(do func(d api.Disk, budget int) (api.Disk, api.Cost, api.Errno)) error {
	d, cost, e := do(c.Disk, c.Budget)
	c.Disk = d
	c.Reads += cost.Reads
	c.Writes += cost.Writes
	// No two of them have their frames at one time.
	c.Frames = max(c.Frames, cost.Frames)
	return At("", e)
}

// Spares has a function that tells names for files on the way, each time another one: none is there now, nor one of the others that are told.
func (c *Chain) Spares(others ...string) func() string {
	base, told := Spare(c.Disk, others...), -1
	return func() string {
		told++
		return base + strconv.Itoa(told)
	}
}

// Through has each of some makers have a file of the one ahead, the first one of from, the last one called to. Those on the way are no more when they were gone through.
func (c *Chain) Through(from, to string, makers ...Maker) error {
	spare, source := c.Spares(to), from
	for i, one := range makers {
		next := to
		if i < len(makers)-1 {
			next = spare()
		}
		err := c.Then(func(d api.Disk, budget int) (api.Disk, api.Cost, api.Errno) {
			return one(d, budget, source, next)
		})
		if err == nil && i > 0 {
			err = c.Free(source)
		}
		if err != nil {
			return err
		}
		source = next
	}
	return nil
}

// Free has files on the way be no more.
func (c *Chain) Free(names ...string) error {
	var e api.Errno
	c.Disk, e = disk.Free(c.Disk, names...)
	return At("", e)
}

// Move has a file on the way be called otherwise.
func (c *Chain) Move(from, to string) error {
	var e api.Errno
	c.Disk, e = disk.Move(c.Disk, from, to)
	return At(from, e)
}

// Strip has a new text's file of a file of pairs: of the bytes that they have behind what they were sorted by.
func Strip(d api.Disk, budget int, from, to string) (api.Disk, api.Cost, api.Errno) {
	return Do(d, budget, func(w *Work) error {
		pairs, err := w.Open(from)
		if err != nil {
			return err
		}
		return w.Make(to, 0, pairs.Count, func(put func(record []uint64) error) error {
			return pairs.Each(func(record []uint64) error { return put(record[1:]) })
		})
	})
}
