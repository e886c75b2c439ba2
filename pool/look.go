package pool

import (
	"wringer/api"
	"wringer/disk"
)

// place is a sector of a disk.
type place struct {
	name   string
	sector int
}

// isMany tells whether a pool may have so many frames.
func isMany(frames int) bool { return frames >= 1 && frames <= api.MaxFrames }

// isFree tells whether a frame is nobody's.
func isFree(f api.Frame) bool { return f == api.Frame{} }

// isLeased tells whether a frame is leased, and nothing else.
func isLeased(f api.Frame) bool { return f == api.Frame{Leased: true} }

// isPinned tells whether a frame holds a sector that it is to keep.
func isPinned(f api.Frame) bool { return f.Pins > 0 }

// mayBeTaken tells whether a frame is free, or holds a sector that it need not keep.
func mayBeTaken(f api.Frame) bool { return !f.Leased && !isPinned(f) }

// mayHold tells whether a frame may be one that holds some sector, in a pool of that tick.
func mayHold(f api.Frame, tick uint64) bool {
	return !f.Leased && len(f.Data) == api.SectorSize && f.Pins >= 0 && f.Pins <= api.MaxPins && f.Tick >= 1 && f.Tick <= tick
}

// framesRight tells whether frames are right, of a pool whose disk is.
func framesRight(p api.Pool) bool {
	many, held, ticks := 0, map[place]int{}, map[uint64]int{}
	for i, f := range p.Frames {
		if isFree(f) || isLeased(f) {
			continue
		}
		if !mayHold(f, p.Tick) {
			return false
		}
		many++
		held[place{f.Name, f.Sector}] = i
		ticks[f.Tick] = i
	}
	// Two of one sector, or of one tick, would have been one.
	return len(held) == many && len(ticks) == many && dataRight(p, held)
}

// dataRight tells whether what frames hold are sectors of the disk, and, where they are not dirty, what is seen of these.
func dataRight(p api.Pool, held map[place]int) bool {
	// What waits is gone through once for all frames: read one by one, each would have the disk go through it again.
	bare := p.Disk
	bare.Waits, bare.Down = nil, false
	seen := make([]string, len(p.Frames))
	for at, i := range held {
		s, e := disk.Read(bare, at.name, at.sector)
		if e != api.OK {
			return false
		}
		seen[i] = s
	}
	for _, one := range p.Disk.Waits {
		if i, is := held[place{one.Name, one.Sector}]; is {
			seen[i] = one.Data
		}
	}
	for i, f := range p.Frames {
		if !f.Dirty && f.Data != seen[i] {
			return false
		}
	}
	return true
}

// fresh is a disk's copy, in new memory: freeing nothing changes nothing, whether there is power for it or not.
func fresh(d api.Disk) api.Disk {
	d, _ = disk.Free(d)
	return d
}

// pinned tells why a frame's bytes are not to be looked at.
func pinned(frames []api.Frame, frame int) api.Errno {
	if frame < 0 || frame >= len(frames) {
		return api.ErrRange
	}
	if !isPinned(frames[frame]) {
		return api.ErrState
	}
	return api.OK
}
