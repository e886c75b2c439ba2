package pool_test

import (
	"math"
	"runtime"
	"slices"
	"strings"
	"testing"
	"unsafe"

	"wringer/api"
	"wringer/disk"
	"wringer/pool"
)

// longest is a name of MaxName bytes.
var longest = strings.Repeat("n", api.MaxName)

// all is a sector that has nothing but c.
func all(c string) string { return strings.Repeat(c, api.SectorSize) }

// zeros is n sectors of 0.
func zeros(n int) string { return strings.Repeat(all("\x00"), n) }

// right is a pool made by hand: of seven frames 0 and 5 are free, 3 is leased, 2 and 6 are dirty, 2 and 4 are pinned; frame 1 is the one that was pinned first, 6 the next.
func right() api.Pool {
	return api.Pool{
		Disk: api.Disk{
			Size: 9,
			Extents: []api.Extent{
				{Name: "a", Data: all("1") + all("2") + all("3")},
				{Name: "b", Data: all("4")},
				{Name: longest, Data: all("5") + all("6")},
			},
			Waits: []api.Write{
				{Name: "a", Sector: 2, Data: all("w")},
				{Name: "b", Sector: 0, Data: all("x")},
				{Name: "a", Sector: 2, Data: all("y")},
			},
			Fuse: -1,
		},
		Frames: []api.Frame{
			{},
			{Name: "a", Sector: 2, Data: all("y"), Tick: 2},
			{Name: "b", Sector: 0, Data: all("!"), Pins: 1, Dirty: true, Tick: 8},
			{Leased: true},
			{Name: "a", Sector: 0, Data: all("1"), Pins: api.MaxPins, Tick: 5},
			{},
			{Name: longest, Sector: 1, Data: all("?"), Dirty: true, Tick: 3},
		},
		Tick: 9, Reads: 20, Writes: 30,
	}
}

// changed is the right pool with something done to it by hand.
func changed(by func(p *api.Pool)) api.Pool {
	p := right()
	by(&p)
	return p
}

// full is the right pool without frames that are free.
func full(by func(p *api.Pool)) api.Pool {
	return changed(func(p *api.Pool) {
		p.Frames[0], p.Frames[5] = api.Frame{Leased: true}, api.Frame{Leased: true}
		by(p)
	})
}

// asIs leaves a pool as it is.
func asIs(*api.Pool) {}

// noPower has no power left for a write.
func noPower(p *api.Pool) { p.Disk.Fuse = 0 }

// noWaits has no room left for a write that waits.
func noWaits(p *api.Pool) {
	more := slices.Repeat([]api.Write{{Name: longest, Data: all("5")}}, api.MaxWaits-len(p.Disk.Waits))
	p.Disk.Waits = append(p.Disk.Waits, more...)
}

// wrote is what a failed write of a frame leaves behind.
func wrote(p *api.Pool, frame int) {
	f := p.Frames[frame]
	p.Disk.Waits = append(p.Disk.Waits, api.Write{Name: f.Name, Sector: f.Sector, Data: f.Data})
	p.Writes++
}

// large is a pool of MaxFrames frames, each of which holds a sector.
func large() api.Pool {
	p := api.Pool{Disk: api.Disk{Size: api.MaxFrames, Extents: []api.Extent{{Name: "a", Data: zeros(api.MaxFrames)}}}, Tick: math.MaxUint64}
	for i := range api.MaxFrames {
		p.Frames = append(p.Frames, api.Frame{Name: "a", Sector: i, Data: zeros(1), Tick: math.MaxUint64 - uint64(i)})
	}
	return p
}

// rights are pools that are right, and just so.
func rights() []api.Pool {
	return []api.Pool{
		{Frames: make([]api.Frame, 1)},
		{Frames: []api.Frame{{Leased: true}}, Disk: api.Disk{Size: 1, Down: true}, Reads: math.MaxUint64, Writes: math.MaxUint64},
		{Frames: make([]api.Frame, api.MaxFrames), Tick: math.MaxUint64},
		right(),
		full(asIs),
		large(),
		changed(noPower),
		changed(noWaits),
		changed(func(p *api.Pool) { p.Tick = 8 }),
		changed(func(p *api.Pool) { p.Frames[4].Pins = 0 }),
		changed(func(p *api.Pool) { p.Frames[1].Tick = 1 }),
		changed(func(p *api.Pool) { p.Frames[1].Tick = 9 }),
		changed(func(p *api.Pool) { p.Disk.Down = true }),
		changed(func(p *api.Pool) { p.Frames[1].Dirty, p.Frames[1].Data = true, all("2") }),
		changed(func(p *api.Pool) { p.Frames[2].Dirty, p.Frames[2].Data = false, all("x") }),
		changed(func(p *api.Pool) { p.Frames[1] = api.Frame{Name: "a", Sector: 1, Data: all("2"), Tick: 2} }),
		changed(func(p *api.Pool) { p.Disk.Waits, p.Frames[1].Data = nil, all("3") }),
	}
}

// wrongFrames are frames that are right in no pool of that disk: frame 1 of the right pool is one of them.
func wrongFrames() []api.Frame {
	l := []api.Frame{}
	add := func(by func(f *api.Frame)) {
		f := right().Frames[1]
		by(&f)
		l = append(l, f)
	}
	for _, name := range []string{"", "c", "aa", "A", longest[1:], longest + "n"} {
		add(func(f *api.Frame) { f.Name, f.Dirty = name, true })
	}
	for _, n := range []int{-1, 3, 4, math.MinInt, math.MaxInt} {
		add(func(f *api.Frame) { f.Sector, f.Dirty = n, true })
	}
	for _, data := range []string{"", "y", all("y")[1:], all("y") + "y", all("y") + all("y")} {
		add(func(f *api.Frame) { f.Data = data })
		add(func(f *api.Frame) { f.Data, f.Dirty = data, true })
	}
	for _, data := range []string{all("3"), all("w"), all("x"), zeros(1), all("y")[1:] + "z", "z" + all("y")[1:]} {
		add(func(f *api.Frame) { f.Data = data })
	}
	for _, n := range []int{-1, api.MaxPins + 1, math.MinInt, math.MaxInt} {
		add(func(f *api.Frame) { f.Pins = n })
	}
	for _, n := range []uint64{0, 10, math.MaxUint64, 3, 5, 8} {
		add(func(f *api.Frame) { f.Tick = n })
	}
	add(func(f *api.Frame) { f.Leased = true })
	add(func(f *api.Frame) { f.Leased, f.Dirty = true, true })
	add(func(f *api.Frame) { f.Sector, f.Data = 0, all("1") })
	add(func(f *api.Frame) { f.Name, f.Sector, f.Data, f.Dirty = "b", 0, all("x"), true })
	for _, leased := range []bool{false, true} {
		l = append(l, api.Frame{Leased: leased, Name: "a"}, api.Frame{Leased: leased, Sector: 1}, api.Frame{Leased: leased, Data: all("1")},
			api.Frame{Leased: leased, Pins: 1}, api.Frame{Leased: leased, Dirty: true}, api.Frame{Leased: leased, Tick: 1})
	}
	return l
}

// wrongs are pools made by hand that are not right.
func wrongs() []api.Pool {
	l := []api.Pool{{}, {Frames: []api.Frame{}}, {Frames: make([]api.Frame, api.MaxFrames+1)}}
	for _, f := range wrongFrames() {
		l = append(l, changed(func(p *api.Pool) { p.Frames[1] = f }))
	}
	for _, by := range []func(p *api.Pool){
		func(p *api.Pool) { p.Frames = nil },
		func(p *api.Pool) { p.Frames = append(p.Frames, make([]api.Frame, api.MaxFrames-6)...) },
		func(p *api.Pool) { p.Tick = 7 },
		func(p *api.Pool) { p.Tick = 0 },
		func(p *api.Pool) { p.Disk = api.Disk{} },
		func(p *api.Pool) { p.Disk.Waits = nil },
		func(p *api.Pool) { p.Disk.Waits = p.Disk.Waits[:2] },
		func(p *api.Pool) { p.Disk.Extents = p.Disk.Extents[1:] },
		func(p *api.Pool) { p.Disk.Size = 5 },
		func(p *api.Pool) { p.Disk.Fuse = -2 },
		func(p *api.Pool) { p.Disk.Waits[0].Data = "" },
		func(p *api.Pool) { p.Disk.Extents[0].Data = all("0") + all("2") + all("3") },
		func(p *api.Pool) { noWaits(p); p.Disk.Waits = append(p.Disk.Waits, p.Disk.Waits[0], p.Disk.Waits[2]) },
	} {
		l = append(l, changed(by))
	}
	p := large()
	p.Frames[api.MaxFrames-1].Sector = 0
	return append(l, p)
}

// alike holds two pools against each other; nil and empty lists are alike.
func alike(a, b api.Pool) bool {
	x, y := a.Disk, b.Disk
	return x.Size == y.Size && x.Fuse == y.Fuse && x.Down == y.Down && slices.Equal(x.Extents, y.Extents) && slices.Equal(x.Waits, y.Waits) &&
		slices.Equal(a.Frames, b.Frames) && a.Tick == b.Tick && a.Reads == b.Reads && a.Writes == b.Writes
}

// isPool holds a pool and an error against what they should be.
func isPool(t *testing.T, what string, got api.Pool, e api.Errno, want api.Pool, wantE api.Errno) {
	t.Helper()
	if !alike(got, want) || e != wantE {
		t.Fatalf("%s: error %d, not %d; %+v\nas it should be:\n%+v", what, e, wantE, got, want)
	}
}

// is holds an answer and an error against what they should be.
func is[T comparable](t *testing.T, what string, got T, e api.Errno, want T, wantE api.Errno) {
	t.Helper()
	if got != want || e != wantE {
		t.Fatalf("%s: %v, error %d; not %v, error %d, as it should be", what, got, e, want, wantE)
	}
}

// isPin pins, and holds what comes of it against what it should be.
func isPin(t *testing.T, p api.Pool, name string, sector int, want api.Pool, wantAt int, wantE api.Errno) {
	t.Helper()
	got, at, e := pool.Pin(p, name, sector)
	isPool(t, "Pin of "+name, got, e, want, wantE)
	is(t, "the frame of "+name, at, e, wantAt, wantE)
}

// isLease leases, and holds what comes of it against what it should be.
func isLease(t *testing.T, p api.Pool, n int, want api.Pool, wantFrames []int, wantE api.Errno) {
	t.Helper()
	got, frames, e := pool.Lease(p, n)
	isPool(t, "Lease", got, e, want, wantE)
	if !slices.Equal(frames, wantFrames) {
		t.Fatalf("Lease: the frames %v, not %v, as they should be", frames, wantFrames)
	}
}

func TestExample(t *testing.T) {
	d, _ := disk.Make(3)
	d, _ = disk.New(d, "a", 3)
	p, e := pool.Make(d, 2)
	for i, want := range []int{0, 1, 0} {
		var at int
		p, at, e = pool.Pin(p, "a", i)
		is(t, "the frame that is taken", at, e, want, api.OK)
		p, e = pool.Unpin(p, at)
	}
	isPool(t, "three sectors in two frames", p, e, api.Pool{
		Disk:   d,
		Frames: []api.Frame{{Name: "a", Sector: 2, Data: zeros(1), Tick: 3}, {Name: "a", Sector: 1, Data: zeros(1), Tick: 2}},
		Tick:   3, Reads: 3,
	}, api.OK)
}

// 5.1
func TestCheck(t *testing.T) {
	for i, p := range rights() {
		if e := pool.Check(p); e != api.OK {
			t.Errorf("right pool %d: error %d", i, e)
		}
	}
	for i, p := range wrongs() {
		for _, down := range []bool{false, true} {
			p.Disk.Down = down
			if e := pool.Check(p); e != api.ErrForm {
				t.Errorf("wrong pool %d: error %d", i, e)
			}
		}
	}
}

// calls are all that answer a pool, with arguments that are right or not.
func calls(p api.Pool) map[string]func() (api.Pool, api.Errno) {
	l := map[string]func() (api.Pool, api.Errno){
		"Unpin of nothing":  func() (api.Pool, api.Errno) { return pool.Unpin(p) },
		"Return of nothing": func() (api.Pool, api.Errno) { return pool.Return(p) },
		"Flush":             func() (api.Pool, api.Errno) { return pool.Flush(p) },
	}
	for _, name := range []string{"", "a", "b", longest, "none"} {
		l["Drop of "+name] = func() (api.Pool, api.Errno) { return pool.Drop(p, name) }
	}
	for i, n := range []int{math.MinInt, -1, 0, 1, 2, 3, 4, 6, 7, api.MaxFrames, math.MaxInt} {
		number := string([]byte{'A' + byte(i)})
		l["Unpin "+number] = func() (api.Pool, api.Errno) { return pool.Unpin(p, n) }
		l["Unpin twice "+number] = func() (api.Pool, api.Errno) { return pool.Unpin(p, n, n) }
		l["Return "+number] = func() (api.Pool, api.Errno) { return pool.Return(p, n) }
		for _, data := range []string{"", "q", all("q"), all("q") + "q"} {
			l["Fill "+number+data] = func() (api.Pool, api.Errno) { return pool.Fill(p, n, 0, data) }
			l["Fill at "+number+data] = func() (api.Pool, api.Errno) { return pool.Fill(p, 2, n, data) }
		}
		l["Lease "+number] = func() (api.Pool, api.Errno) {
			q, frames, e := pool.Lease(p, n)
			if e != api.OK && len(frames) != 0 {
				return api.Pool{Tick: 1}, e
			}
			return q, e
		}
		for _, name := range []string{"", "a", "b", longest, "none"} {
			l["Pin of "+name+number] = func() (api.Pool, api.Errno) {
				q, frame, e := pool.Pin(p, name, n)
				if e != api.OK && frame != 0 {
					return api.Pool{Tick: 1}, e
				}
				return q, e
			}
		}
	}
	return l
}

// 5.1: a pool that is not right is answered ahead of all else, and all else is zero.
func TestFormFirst(t *testing.T) {
	for _, p := range wrongs() {
		for _, down := range []bool{false, true} {
			p.Disk.Down = down
			for what, call := range calls(p) {
				got, e := call()
				isPool(t, what, got, e, api.Pool{}, api.ErrForm)
			}
			for _, n := range []int{-1, 0, 2, 100} {
				s, e := pool.Look(p, n)
				is(t, "Look", s, e, "", api.ErrForm)
			}
			held, pinned, leased, e := pool.Counts(p)
			is(t, "Counts", [3]int{held, pinned, leased}, e, [3]int{}, api.ErrForm)
		}
	}
}

// 5.1: where the power is gone, that is answered ahead of what else is wrong, and the pool is as it was.
func TestDown(t *testing.T) {
	for _, p := range rights() {
		p.Disk.Down = true
		for what, call := range calls(p) {
			got, e := call()
			isPool(t, what, got, e, p, api.ErrPower)
		}
		for _, n := range []int{-1, 0, 2, 100} {
			s, e := pool.Look(p, n)
			is(t, "Look", s, e, "", api.ErrPower)
		}
	}
	held, pinned, leased, e := pool.Counts(changed(func(p *api.Pool) { p.Disk.Down = true }))
	is(t, "Counts", [3]int{held, pinned, leased}, e, [3]int{4, 2, 1}, api.OK)
}

// 5.1
func TestMake(t *testing.T) {
	down := changed(func(p *api.Pool) { p.Disk.Down = true }).Disk
	for _, d := range []api.Disk{{}, right().Disk, down} {
		for _, n := range []int{1, 2, 24, api.MaxFrames - 1, api.MaxFrames} {
			p, e := pool.Make(d, n)
			isPool(t, "Make", p, e, api.Pool{Disk: d, Frames: make([]api.Frame, n)}, api.OK)
		}
		for _, n := range []int{0, -1, math.MinInt, api.MaxFrames + 1, math.MaxInt} {
			p, e := pool.Make(d, n)
			isPool(t, "Make out of range", p, e, api.Pool{}, api.ErrRange)
		}
	}
	for _, n := range []int{-1, 0, 1, api.MaxFrames + 1} {
		p, e := pool.Make(api.Disk{Size: -1}, n)
		isPool(t, "Make of no disk", p, e, api.Pool{}, api.ErrForm)
	}
}

// 5.1
func TestCounts(t *testing.T) {
	for _, l := range []struct {
		p    api.Pool
		want [3]int
	}{
		{right(), [3]int{4, 2, 1}},
		{full(asIs), [3]int{4, 2, 3}},
		{large(), [3]int{api.MaxFrames, 0, 0}},
		{api.Pool{Frames: make([]api.Frame, 5)}, [3]int{}},
		{changed(func(p *api.Pool) { p.Frames[1].Pins = 2 }), [3]int{4, 3, 1}},
	} {
		held, pinned, leased, e := pool.Counts(l.p)
		is(t, "Counts", [3]int{held, pinned, leased}, e, l.want, api.OK)
	}
}

// 5.2: of a sector that a frame holds.
func TestPinHeld(t *testing.T) {
	isPin(t, right(), "a", 2, changed(func(p *api.Pool) {
		p.Frames[1].Pins, p.Frames[1].Tick, p.Tick = 1, 10, 10
	}), 1, api.OK)
	isPin(t, right(), "b", 0, changed(func(p *api.Pool) {
		p.Frames[2].Pins, p.Frames[2].Tick, p.Tick = 2, 10, 10
	}), 2, api.OK)
	isPin(t, right(), "a", 0, right(), 0, api.ErrState)
	once := changed(func(p *api.Pool) { p.Frames[4].Pins-- })
	isPin(t, once, "a", 0, changed(func(p *api.Pool) { p.Frames[4].Tick, p.Tick = 10, 10 }), 4, api.OK)
	isPin(t, full(noPower), longest, 1, full(func(p *api.Pool) {
		noPower(p)
		p.Frames[6].Pins, p.Frames[6].Tick, p.Tick = 1, 10, 10
	}), 6, api.OK)
}

// 5.2: of a sector that none holds: the free frame with the lowest number is taken.
func TestPinFree(t *testing.T) {
	isPin(t, right(), "a", 1, changed(func(p *api.Pool) {
		p.Frames[0] = api.Frame{Name: "a", Sector: 1, Data: all("2"), Pins: 1, Tick: 10}
		p.Tick, p.Reads = 10, 21
	}), 0, api.OK)
	first := changed(func(p *api.Pool) { p.Frames[0].Leased = true })
	isPin(t, first, longest, 0, changed(func(p *api.Pool) {
		p.Frames[0].Leased = true
		p.Frames[5] = api.Frame{Name: longest, Data: all("5"), Pins: 1, Tick: 10}
		p.Tick, p.Reads = 10, 21
	}), 5, api.OK)
	waits := changed(func(p *api.Pool) { p.Frames[1] = api.Frame{} })
	isPin(t, waits, "a", 2, changed(func(p *api.Pool) {
		p.Frames[0] = api.Frame{Name: "a", Sector: 2, Data: all("y"), Pins: 1, Tick: 10}
		p.Frames[1], p.Tick, p.Reads = api.Frame{}, 10, 21
	}), 0, api.OK)
}

// 5.2: if no frame is free, the one with the least Tick is taken, of those that are not pinned; if it is dirty, it is written.
func TestPinTakes(t *testing.T) {
	taken := api.Frame{Name: "a", Sector: 1, Data: all("2"), Pins: 1, Tick: 10}
	isPin(t, full(asIs), "a", 1, full(func(p *api.Pool) {
		p.Frames[1], p.Tick, p.Reads = taken, 10, 21
	}), 1, api.OK)
	later := func(p *api.Pool) { p.Frames[1].Tick = 4 }
	isPin(t, full(later), "a", 1, full(func(p *api.Pool) {
		later(p)
		wrote(p, 6)
		p.Frames[6], p.Tick, p.Reads = taken, 10, 21
	}), 6, api.OK)
	// Ticks count, not numbers: pinned frames are passed over, be they the eldest.
	eldest := func(p *api.Pool) { p.Frames[2].Tick, p.Frames[4].Tick, p.Frames[1].Tick = 1, 2, 5 }
	isPin(t, full(eldest), "a", 1, full(func(p *api.Pool) {
		eldest(p)
		wrote(p, 6)
		p.Frames[6], p.Tick, p.Reads = taken, 10, 21
	}), 6, api.OK)
	one := func(p *api.Pool) { p.Frames[1].Pins, p.Disk.Fuse = 1, 1 }
	isPin(t, full(one), "a", 1, full(func(p *api.Pool) {
		one(p)
		wrote(p, 6)
		p.Disk.Fuse = 0
		p.Frames[6], p.Tick, p.Reads = taken, 10, 21
	}), 6, api.OK)
}

// 5.2: a Tick goes round.
func TestPinTick(t *testing.T) {
	last := changed(func(p *api.Pool) { p.Tick = math.MaxUint64 })
	isPin(t, last, "a", 2, changed(func(p *api.Pool) {
		p.Frames[1].Pins, p.Frames[1].Tick, p.Tick = 1, 0, 0
	}), 1, api.OK)
	last.Tick--
	isPin(t, last, "a", 2, changed(func(p *api.Pool) {
		p.Frames[1].Pins, p.Frames[1].Tick, p.Tick = 1, math.MaxUint64, math.MaxUint64
	}), 1, api.OK)
}

// 5.2: the errors, in the order in which they are told.
func TestPinWrong(t *testing.T) {
	closed := full(func(p *api.Pool) { p.Frames[1].Pins, p.Frames[6].Pins = 1, 1 })
	for _, p := range []api.Pool{right(), full(asIs), full(noPower), closed} {
		for _, n := range []int{math.MinInt, -1, 0, 1, math.MaxInt} {
			for _, name := range []string{"", "none", "aa", longest + "n"} {
				isPin(t, p, name, n, p, 0, api.ErrNone)
			}
		}
		for _, n := range []int{math.MinInt, -1, 3, 4, math.MaxInt} {
			isPin(t, p, "a", n, p, 0, api.ErrRange)
			isPin(t, p, "b", n, p, 0, api.ErrRange)
		}
		isPin(t, p, "a", 0, p, 0, api.ErrState)
	}
	isPin(t, closed, "a", 1, closed, 0, api.ErrBudget)
	leased := changed(func(p *api.Pool) { p.Frames = slices.Repeat([]api.Frame{{Leased: true}}, api.MaxFrames) })
	isPin(t, leased, "a", 1, leased, 0, api.ErrBudget)
	single := changed(func(p *api.Pool) { p.Frames = p.Frames[2:3] })
	isPin(t, single, "a", 1, single, 0, api.ErrBudget)
}

// 5.2: a write that fails is told beside the pool behind it: the frame is as it was.
func TestPinNoWrite(t *testing.T) {
	dirty := func(p *api.Pool) { p.Frames[1].Pins = 3 }
	isPin(t, full(func(p *api.Pool) { dirty(p); noPower(p) }), "a", 1, full(func(p *api.Pool) {
		dirty(p)
		noPower(p)
		wrote(p, 6)
		p.Disk.Down = true
	}), 0, api.ErrPower)
	isPin(t, full(func(p *api.Pool) { dirty(p); noWaits(p) }), "a", 1, full(func(p *api.Pool) {
		dirty(p)
		noWaits(p)
		p.Writes++
	}), 0, api.ErrFull)
	// Where there is nothing to write, it needs no power, nor room.
	for _, by := range []func(p *api.Pool){noPower, noWaits} {
		isPin(t, full(by), "a", 1, full(func(p *api.Pool) {
			by(p)
			p.Frames[1] = api.Frame{Name: "a", Sector: 1, Data: all("2"), Pins: 1, Tick: 10}
			p.Tick, p.Reads = 10, 21
		}), 1, api.OK)
	}
}

// 5.2
func TestPinMost(t *testing.T) {
	p, _ := pool.Make(right().Disk, 1)
	for i := range api.MaxPins {
		var at int
		var e api.Errno
		p, at, e = pool.Pin(p, "a", 1)
		is(t, "Pin", at, e, 0, api.OK)
		is(t, "Pins", p.Frames[0].Pins, pool.Check(p), i+1, api.OK)
	}
	isPin(t, p, "a", 1, p, 0, api.ErrState)
	isPin(t, p, "a", 2, p, 0, api.ErrBudget)
	p, e := pool.Unpin(p, make([]int, api.MaxPins)...)
	is(t, "Unpin of all", p.Frames[0].Pins, e, 0, api.OK)
	got, e := pool.Unpin(p, 0)
	isPool(t, "Unpin once more", got, e, p, api.ErrState)
	isPin(t, p, "a", 2, api.Pool{
		Disk: right().Disk, Frames: []api.Frame{{Name: "a", Sector: 2, Data: all("y"), Pins: 1, Tick: api.MaxPins + 1}},
		Tick: api.MaxPins + 1, Reads: 2,
	}, 0, api.OK)
}

// 5.2
func TestUnpin(t *testing.T) {
	p, e := pool.Unpin(right())
	isPool(t, "Unpin of nothing", p, e, right(), api.OK)
	p, e = pool.Unpin(right(), 2)
	isPool(t, "Unpin of one", p, e, changed(func(p *api.Pool) { p.Frames[2].Pins = 0 }), api.OK)
	p, e = pool.Unpin(right(), 4, 2, 4, 4)
	isPool(t, "Unpin of many", p, e, changed(func(p *api.Pool) { p.Frames[2].Pins, p.Frames[4].Pins = 0, api.MaxPins-3 }), api.OK)
	for _, l := range []struct {
		frames []int
		want   api.Errno
	}{
		{[]int{-1}, api.ErrRange}, {[]int{7}, api.ErrRange}, {[]int{math.MinInt}, api.ErrRange}, {[]int{math.MaxInt}, api.ErrRange},
		{[]int{0}, api.ErrState}, {[]int{1}, api.ErrState}, {[]int{3}, api.ErrState}, {[]int{6}, api.ErrState},
		{[]int{4, 2, 2}, api.ErrState}, {[]int{4, 7, 0}, api.ErrRange}, {[]int{4, 0, 7}, api.ErrState}, {[]int{2, 4, -1}, api.ErrRange},
	} {
		p, e = pool.Unpin(right(), l.frames...)
		isPool(t, "Unpin refused", p, e, right(), l.want)
	}
}

// 5.3
func TestLook(t *testing.T) {
	s, e := pool.Look(right(), 2)
	is(t, "Look at what is dirty", s, e, all("!"), api.OK)
	s, e = pool.Look(right(), 4)
	is(t, "Look", s, e, all("1"), api.OK)
	for _, n := range []int{-1, 7, api.MaxFrames, math.MinInt, math.MaxInt} {
		s, e = pool.Look(right(), n)
		is(t, "Look at no frame", s, e, "", api.ErrRange)
	}
	for _, n := range []int{0, 1, 3, 5, 6} {
		s, e = pool.Look(right(), n)
		is(t, "Look at what is not pinned", s, e, "", api.ErrState)
	}
}

// 5.3: at each place, of each length.
func TestFill(t *testing.T) {
	for at := range api.SectorSize + 1 {
		for n := range api.SectorSize + 2 {
			p, e := pool.Fill(right(), 4, at, all("q+")[:n])
			want, wantE := right(), api.ErrRange
			if at+n <= api.SectorSize {
				want.Frames[4].Data, want.Frames[4].Dirty = all("1")[:at]+all("q+")[:n]+all("1")[at+n:], true
				wantE = api.OK
			}
			isPool(t, "Fill", p, e, want, wantE)
		}
	}
	p, e := pool.Fill(right(), 2, 62, "")
	isPool(t, "Fill of nothing", p, e, right(), api.OK)
}

// 5.3: the errors, in the order in which they are told.
func TestFillWrong(t *testing.T) {
	for _, l := range []struct {
		frame, at int
		data      string
		want      api.Errno
	}{
		{-1, 0, "", api.ErrRange}, {7, 0, "", api.ErrRange}, {math.MinInt, 0, "x", api.ErrRange}, {math.MaxInt, 0, "x", api.ErrRange},
		{2, -1, "", api.ErrRange}, {2, math.MinInt, "", api.ErrRange}, {2, 65, "", api.ErrRange}, {2, 64, "x", api.ErrRange},
		{2, math.MaxInt, "x", api.ErrRange}, {2, math.MaxInt, "", api.ErrRange}, {2, 0, all("x") + "x", api.ErrRange}, {2, 1, all("x"), api.ErrRange},
		{1, -1, "", api.ErrRange}, {3, 65, "", api.ErrRange}, {0, 0, all("x") + "x", api.ErrRange},
		{0, 0, "", api.ErrState}, {1, 0, "", api.ErrState}, {3, 0, "x", api.ErrState}, {6, 64, "", api.ErrState},
	} {
		p, e := pool.Fill(right(), l.frame, l.at, l.data)
		isPool(t, "Fill refused", p, e, right(), l.want)
	}
}

// 5.4
func TestLease(t *testing.T) {
	leased := api.Frame{Leased: true}
	isLease(t, right(), 0, right(), nil, api.OK)
	isLease(t, right(), 1, changed(func(p *api.Pool) { p.Frames[0] = leased }), []int{0}, api.OK)
	isLease(t, right(), 3, changed(func(p *api.Pool) {
		p.Frames[0], p.Frames[5], p.Frames[1] = leased, leased, leased
	}), []int{0, 5, 1}, api.OK)
	isLease(t, right(), 4, changed(func(p *api.Pool) {
		wrote(p, 6)
		p.Frames[0], p.Frames[5], p.Frames[1], p.Frames[6] = leased, leased, leased, leased
	}), []int{0, 5, 1, 6}, api.OK)
	later := func(p *api.Pool) { p.Frames[1].Tick = 4 }
	isLease(t, full(later), 2, full(func(p *api.Pool) {
		later(p)
		wrote(p, 6)
		p.Frames[1], p.Frames[6] = leased, leased
	}), []int{6, 1}, api.OK)
	frames := make([]int, api.MaxFrames)
	for i := range frames {
		frames[i] = api.MaxFrames - 1 - i
	}
	isLease(t, large(), api.MaxFrames, func() api.Pool {
		p := large()
		p.Frames = slices.Repeat([]api.Frame{leased}, api.MaxFrames)
		return p
	}(), frames, api.OK)
}

// 5.4
func TestLeaseWrong(t *testing.T) {
	for _, p := range []api.Pool{right(), full(noPower), large()} {
		for _, n := range []int{-1, math.MinInt} {
			isLease(t, p, n, p, nil, api.ErrRange)
		}
	}
	for _, l := range []struct {
		p    api.Pool
		most int
	}{{right(), 4}, {changed(noPower), 4}, {full(asIs), 2}, {full(func(p *api.Pool) { p.Frames[1].Pins, p.Frames[6].Pins = 1, 1 }), 0}, {large(), api.MaxFrames}} {
		for _, n := range []int{l.most + 1, api.MaxFrames + 1, math.MaxInt} {
			isLease(t, l.p, n, l.p, nil, api.ErrBudget)
		}
	}
}

// 5.4: a write that fails is told beside the pool behind it: those that were taken ahead are leased.
func TestLeaseNoWrite(t *testing.T) {
	ahead := func(p *api.Pool) {
		p.Frames[0].Leased, p.Frames[5].Leased = true, true
		p.Frames[1] = api.Frame{Leased: true}
	}
	isLease(t, changed(noPower), 4, changed(func(p *api.Pool) {
		noPower(p)
		ahead(p)
		wrote(p, 6)
		p.Disk.Down = true
	}), nil, api.ErrPower)
	isLease(t, changed(noWaits), 4, changed(func(p *api.Pool) {
		noWaits(p)
		ahead(p)
		p.Writes++
	}), nil, api.ErrFull)
	for _, by := range []func(p *api.Pool){noPower, noWaits} {
		isLease(t, changed(by), 3, changed(func(p *api.Pool) { by(p); ahead(p) }), []int{0, 5, 1}, api.OK)
	}
}

// 5.4
func TestReturn(t *testing.T) {
	p, e := pool.Return(right())
	isPool(t, "Return of nothing", p, e, right(), api.OK)
	p, e = pool.Return(right(), 3)
	isPool(t, "Return of one", p, e, changed(func(p *api.Pool) { p.Frames[3] = api.Frame{} }), api.OK)
	p, e = pool.Return(full(asIs), 5, 0, 3)
	isPool(t, "Return of many", p, e, changed(func(p *api.Pool) { p.Frames[3] = api.Frame{} }), api.OK)
	for _, l := range []struct {
		frames []int
		want   api.Errno
	}{
		{[]int{-1}, api.ErrRange}, {[]int{7}, api.ErrRange}, {[]int{math.MinInt}, api.ErrRange}, {[]int{math.MaxInt}, api.ErrRange},
		{[]int{1}, api.ErrState}, {[]int{2}, api.ErrState}, {[]int{4}, api.ErrState}, {[]int{3, 3}, api.ErrState},
		{[]int{0, 3, 5, 0}, api.ErrState}, {[]int{3, 7, 1}, api.ErrRange}, {[]int{3, 1, 7}, api.ErrState},
	} {
		p, e = pool.Return(full(asIs), l.frames...)
		isPool(t, "Return refused", p, e, full(asIs), l.want)
	}
	p, e = pool.Return(right(), 0)
	isPool(t, "Return of what is free", p, e, right(), api.ErrState)
}

// 5.4
func TestDrop(t *testing.T) {
	p, e := pool.Drop(right(), longest)
	isPool(t, "Drop of what is dirty", p, e, changed(func(p *api.Pool) { p.Frames[6] = api.Frame{} }), api.OK)
	open := func(p *api.Pool) { p.Frames[4].Pins = 0 }
	p, e = pool.Drop(changed(open), "a")
	isPool(t, "Drop of two", p, e, changed(func(p *api.Pool) { p.Frames[1], p.Frames[4] = api.Frame{}, api.Frame{} }), api.OK)
	p, e = pool.Drop(changed(func(p *api.Pool) { open(p); noPower(p) }), "a")
	isPool(t, "Drop without power for a write", p, e, changed(func(p *api.Pool) {
		noPower(p)
		p.Frames[1], p.Frames[4] = api.Frame{}, api.Frame{}
	}), api.OK)
	for _, name := range []string{"a", "b"} {
		p, e = pool.Drop(right(), name)
		isPool(t, "Drop of what is pinned", p, e, right(), api.ErrState)
	}
	// What holds no sector is of no extent, though its name is empty.
	for _, name := range []string{"", "none", "aa", "A", longest + "n"} {
		p, e = pool.Drop(full(asIs), name)
		isPool(t, "Drop of what none holds", p, e, full(asIs), api.OK)
	}
}

// 5.5
func TestFlush(t *testing.T) {
	flushed := func(p *api.Pool) {
		wrote(p, 2)
		wrote(p, 6)
		p.Disk, _ = disk.Sync(p.Disk)
		p.Frames[2].Dirty, p.Frames[6].Dirty = false, false
	}
	p, e := pool.Flush(right())
	isPool(t, "Flush", p, e, changed(flushed), api.OK)
	is(t, "behind a Flush all that waited is on the disk", strings.Join([]string{p.Disk.Extents[0].Data, p.Disk.Extents[1].Data, p.Disk.Extents[2].Data}, "|"),
		pool.Check(p), all("1")+all("2")+all("y")+"|"+all("!")+"|"+all("5")+all("?"), api.OK)
	again, e := pool.Flush(p)
	isPool(t, "Flush of nothing", again, e, p, api.OK)
	p, e = pool.Flush(changed(func(p *api.Pool) { p.Disk.Fuse = 2 }))
	isPool(t, "Flush with power for just two", p, e, changed(func(p *api.Pool) { flushed(p); p.Disk.Fuse = 0 }), api.OK)
	// Where there is nothing to write, it needs no power, but has what waits be done.
	clean := func(p *api.Pool) {
		noPower(p)
		p.Frames[2], p.Frames[6] = api.Frame{}, api.Frame{}
	}
	p, e = pool.Flush(changed(clean))
	isPool(t, "Flush of what waits", p, e, changed(func(p *api.Pool) { clean(p); p.Disk, _ = disk.Sync(p.Disk) }), api.OK)
}

// 5.5: a write that fails ends it, and is told beside the pool behind it.
func TestFlushNoWrite(t *testing.T) {
	for fuse := range 2 {
		p, e := pool.Flush(changed(func(p *api.Pool) { p.Disk.Fuse = fuse }))
		isPool(t, "Flush without power", p, e, changed(func(p *api.Pool) {
			wrote(p, 2)
			if fuse == 1 {
				p.Frames[2].Dirty = false
				wrote(p, 6)
			}
			p.Disk.Fuse, p.Disk.Down = 0, true
		}), api.ErrPower)
	}
	p, e := pool.Flush(changed(noWaits))
	isPool(t, "Flush without room", p, e, changed(func(p *api.Pool) { noWaits(p); p.Writes++ }), api.ErrFull)
	last := func(p *api.Pool) { noWaits(p); p.Disk.Waits = p.Disk.Waits[:api.MaxWaits-1] }
	p, e = pool.Flush(changed(last))
	isPool(t, "Flush with room for one", p, e, changed(func(p *api.Pool) {
		last(p)
		wrote(p, 2)
		p.Frames[2].Dirty = false
		p.Writes++
	}), api.ErrFull)
}

// texts are where those of a pool stand in memory.
func texts(p api.Pool) []*byte {
	l := []string{}
	for _, x := range p.Disk.Extents {
		l = append(l, x.Name, x.Data)
	}
	for _, one := range p.Disk.Waits {
		l = append(l, one.Name, one.Data)
	}
	for _, f := range p.Frames {
		l = append(l, f.Name, f.Data)
	}
	at := []*byte{}
	for _, s := range l {
		if s != "" {
			at = append(at, unsafe.StringData(s))
		}
	}
	return at
}

// shares tells whether two pools share a list or a text.
func shares(a, b api.Pool) bool {
	of := map[*byte]int{}
	for _, at := range texts(a) {
		of[at]++
	}
	for _, at := range texts(b) {
		if of[at] > 0 {
			return true
		}
	}
	return len(a.Frames)*len(b.Frames) > 0 && &a.Frames[0] == &b.Frames[0] ||
		len(a.Disk.Extents)*len(b.Disk.Extents) > 0 && &a.Disk.Extents[0] == &b.Disk.Extents[0] ||
		len(a.Disk.Waits)*len(b.Disk.Waits) > 0 && &a.Disk.Waits[0] == &b.Disk.Waits[0]
}

// isTwice tells whether two texts of one pool stand in one place.
func isTwice(p api.Pool) bool {
	of := map[*byte]int{}
	for _, at := range texts(p) {
		if of[at]++; of[at] > 1 {
			return true
		}
	}
	return false
}

// 5.6: what each call, refused or not, answers is its own, and what was handed in is as it was.
func TestNewMemory(t *testing.T) {
	for _, by := range []func(p *api.Pool){asIs, noPower, func(p *api.Pool) { p.Disk.Down = true }} {
		from := changed(by)
		for what, call := range calls(from) {
			p, _ := call()
			again, _ := call()
			if shares(p, from) || shares(p, again) || isTwice(p) {
				t.Errorf("%s: what is answered is no new memory", what)
			}
			clear(p.Frames)
			clear(p.Disk.Extents)
			clear(p.Disk.Waits)
			if next, _ := call(); !alike(next, again) {
				t.Errorf("%s: what was answered is no new memory", what)
			}
		}
		if !alike(from, changed(by)) {
			t.Error("what was handed in has changed")
		}
	}
	from, name := full(asIs), strings.Repeat("a", 1)
	p, at, _ := pool.Pin(from, name, 1)
	if unsafe.StringData(p.Frames[at].Name) == unsafe.StringData(name) {
		t.Error("a name that is handed in is kept")
	}
	data := all("q")
	if p, _ = pool.Fill(from, 2, 0, data); unsafe.StringData(p.Frames[2].Data) == unsafe.StringData(data) {
		t.Error("data that are handed in are kept")
	}
	if s, _ := pool.Look(from, 2); unsafe.StringData(s) == unsafe.StringData(from.Frames[2].Data) {
		t.Error("what is looked at is no new memory")
	}
	d := right().Disk
	if p, _ = pool.Make(d, 2); shares(p, api.Pool{Disk: d}) {
		t.Error("a disk that is handed in is kept")
	}
}

// P1, P3, P4: whatever is handed in, each call answers the same twice, and leaves no goroutine.
func TestWhatever(t *testing.T) {
	before := runtime.NumGoroutine()
	for _, from := range slices.Concat(wrongs(), rights()) {
		if len(from.Frames)+len(from.Disk.Waits) > 100 {
			continue
		}
		for what, call := range calls(from) {
			p1, e1 := call()
			p2, e2 := call()
			isPool(t, what+" again", p2, e2, p1, e1)
			if e1 != api.ErrForm && pool.Check(p1) != api.OK && from.Tick != math.MaxUint64 {
				t.Errorf("%s: a pool that is not right", what)
			}
		}
	}
	if after := runtime.NumGoroutine(); after > before {
		t.Errorf("%d goroutines, where %d were", after, before)
	}
}
