package pool

import (
	"slices"
	"strings"

	"wringer/api"
	"wringer/disk"
)

// work is a pool at work: its frames are its own, and changed on the spot; the disk is the one that was handed in until it is written.
type work struct {
	api.Disk
	frames []api.Frame
	tick   uint64
	reads  uint64
	writes uint64
}

// begin has a copy of p at work.
func begin(p api.Pool) *work {
	w := &work{Disk: p.Disk, frames: slices.Clone(p.Frames), tick: p.Tick, reads: p.Reads, writes: p.Writes}
	for i, f := range p.Frames {
		w.frames[i].Name = strings.Clone(f.Name)
		w.frames[i].Data = strings.Clone(f.Data)
	}
	return w
}

// done hands the pool out as a plain one.
func (w *work) done() api.Pool {
	return api.Pool{Disk: fresh(w.Disk), Frames: w.frames, Tick: w.tick, Reads: w.reads, Writes: w.writes}
}

// pin has a sector be held once more, by the frame that holds it or by one that is taken for it.
func (w *work) pin(name string, sector int) (int, api.Errno) {
	at, e := w.holder(name, sector), api.OK
	if at < 0 {
		at, e = w.fetch(name, sector)
	}
	if e != api.OK {
		return 0, e
	}
	f := &w.frames[at]
	if f.Pins == api.MaxPins {
		return 0, api.ErrState
	}
	f.Pins++
	w.tick++
	f.Tick = w.tick
	return at, api.OK
}

// holder tells which frame holds a sector: -1, if none does.
func (w *work) holder(name string, sector int) int {
	return slices.IndexFunc(w.frames, func(f api.Frame) bool {
		// What holds none has no name, which may be the one that is asked for.
		return name != "" && f.Name == name && f.Sector == sector
	})
}

// fetch has a frame hold a sector that none holds, not pinned yet.
func (w *work) fetch(name string, sector int) (int, api.Errno) {
	data, e := disk.Read(w.Disk, name, sector)
	if e != api.OK {
		return 0, e
	}
	if w.spare() < 1 {
		return 0, api.ErrBudget
	}
	at, e := w.take()
	if e != api.OK {
		return 0, e
	}
	w.frames[at] = api.Frame{Name: strings.Clone(name), Sector: sector, Data: data}
	w.reads++
	return at, api.OK
}

// spare tells how many frames may be taken.
func (w *work) spare() int {
	many := 0
	for _, f := range w.frames {
		if mayBeTaken(f) {
			many++
		}
	}
	return many
}

// take has a frame be free, and tells its number; it is known that one may be taken. One that cannot be written stays as it was.
func (w *work) take() (int, api.Errno) {
	at := w.eldest()
	if e := w.save(at); e != api.OK {
		return 0, e
	}
	w.frames[at] = api.Frame{}
	return at, api.OK
}

// eldest tells which frame is to be taken. One that is free has a Tick of 0, which none has that holds: it is ahead of these.
func (w *work) eldest() int {
	best := -1
	for i, f := range w.frames {
		if mayBeTaken(f) && (best < 0 || f.Tick < w.frames[best].Tick) {
			best = i
		}
	}
	return best
}

// save writes a frame, if it is dirty.
func (w *work) save(at int) api.Errno {
	f := &w.frames[at]
	if !f.Dirty {
		return api.OK
	}
	var e api.Errno
	w.Disk, e = disk.Write(w.Disk, f.Name, f.Sector, f.Data)
	// A write for which there is no power waits all the same: each one counts.
	w.writes++
	f.Dirty = e != api.OK
	return e
}

// each does one thing with any many frames; if it is refused of one, it is done with none.
func (w *work) each(do func(w *work, frame int) api.Errno, frames []int) api.Errno {
	before := slices.Clone(w.frames)
	for _, frame := range frames {
		if e := do(w, frame); e != api.OK {
			w.frames = before
			return e
		}
	}
	return api.OK
}

// unpin has a frame be pinned once less.
func (w *work) unpin(frame int) api.Errno {
	if e := pinned(w.frames, frame); e != api.OK {
		return e
	}
	w.frames[frame].Pins--
	return api.OK
}

// giveBack has a frame that is leased be free.
func (w *work) giveBack(frame int) api.Errno {
	if frame < 0 || frame >= len(w.frames) {
		return api.ErrRange
	}
	if !w.frames[frame].Leased {
		return api.ErrState
	}
	w.frames[frame] = api.Frame{}
	return api.OK
}

// fill has a frame's bytes from at on be others.
func (w *work) fill(frame, at int, data string) api.Errno {
	if at < 0 || at > api.SectorSize-len(data) {
		return api.ErrRange
	}
	if e := pinned(w.frames, frame); e != api.OK {
		return e
	}
	f := &w.frames[frame]
	bytes := []byte(f.Data)
	copy(bytes[at:], data)
	f.Data, f.Dirty = string(bytes), true
	return api.OK
}

// lease takes n frames. If one cannot be written, those ahead of it stay leased.
func (w *work) lease(n int) ([]int, api.Errno) {
	if n < 0 {
		return nil, api.ErrRange
	}
	if n > w.spare() {
		return nil, api.ErrBudget
	}
	frames := make([]int, 0, n)
	for range n {
		at, e := w.take()
		if e != api.OK {
			return nil, e
		}
		w.frames[at].Leased = true
		frames = append(frames, at)
	}
	return frames, api.OK
}

// drop has all frames of an extent be free.
func (w *work) drop(name string) api.Errno {
	// What holds no sector has no name.
	isOf := func(f api.Frame) bool { return name != "" && f.Name == name }
	if slices.ContainsFunc(w.frames, func(f api.Frame) bool { return isOf(f) && isPinned(f) }) {
		return api.ErrState
	}
	for i, f := range w.frames {
		if isOf(f) {
			w.frames[i] = api.Frame{}
		}
	}
	return api.OK
}

// flush writes all that is dirty, frame by frame, and syncs the disk.
func (w *work) flush() api.Errno {
	for i := range w.frames {
		if e := w.save(i); e != api.OK {
			return e
		}
	}
	var e api.Errno
	w.Disk, e = disk.Sync(w.Disk)
	return e
}
