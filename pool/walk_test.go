package pool_test

import (
	"cmp"
	"math/rand/v2"
	"slices"
	"strings"
	"testing"

	"wringer/api"
	"wringer/disk"
	"wringer/pool"
)

// model is a pool as the chapter's words tell it. It is changed on the spot; what it was is handed back where a call is refused.
type model struct{ api.Pool }

// plain is the model as plain data.
func (m *model) plain() api.Pool {
	p := m.Pool
	p.Frames = slices.Clone(p.Frames)
	return p
}

// holder is the frame that holds a sector, or nil.
func (m *model) holder(name string, sector int) *api.Frame {
	for i := range m.Frames {
		if f := &m.Frames[i]; len(f.Data) > 0 && f.Name == name && f.Sector == sector {
			return f
		}
	}
	return nil
}

// order is the numbers of frames that may be taken, in the order in which they would be.
func (m *model) order() []int {
	free, held := []int{}, []int{}
	for i, f := range m.Frames {
		switch {
		case f == (api.Frame{}):
			free = append(free, i)
		case !f.Leased && f.Pins == 0:
			held = append(held, i)
		}
	}
	slices.SortFunc(held, func(i, j int) int { return cmp.Compare(m.Frames[i].Tick, m.Frames[j].Tick) })
	return append(free, held...)
}

// write is what is done with a dirty frame.
func (m *model) write(i int) api.Errno {
	f := m.Frames[i]
	d, e := disk.Write(m.Disk, f.Name, f.Sector, f.Data)
	m.Disk = d
	m.Writes++
	return e
}

// take has a frame be free.
func (m *model) take(i int) api.Errno {
	if m.Frames[i].Dirty {
		if e := m.write(i); e != api.OK {
			return e
		}
	}
	m.Frames[i] = api.Frame{}
	return api.OK
}

func (m *model) pin(name string, sector int) (int, api.Errno) {
	f := m.holder(name, sector)
	if f != nil && f.Pins == api.MaxPins {
		return 0, api.ErrState
	}
	if f == nil {
		data, e := disk.Read(m.Disk, name, sector)
		if e != api.OK {
			return 0, e
		}
		order := m.order()
		if len(order) == 0 {
			return 0, api.ErrBudget
		}
		if e = m.take(order[0]); e != api.OK {
			return 0, e
		}
		m.Reads++
		f = &m.Frames[order[0]]
		*f = api.Frame{Name: name, Sector: sector, Data: data}
	}
	f.Pins++
	m.Tick++
	f.Tick = m.Tick
	return slices.IndexFunc(m.Frames, func(g api.Frame) bool { return g.Tick == m.Tick }), api.OK
}

// some does a thing with some frames, or, if it is refused of one, with none.
func (m *model) some(frames []int, is func(f api.Frame) bool, do func(f *api.Frame)) api.Errno {
	after := m.plain().Frames
	for _, i := range frames {
		if i < 0 || i >= len(after) {
			return api.ErrRange
		}
		if !is(after[i]) {
			return api.ErrState
		}
		do(&after[i])
	}
	m.Frames = after
	return api.OK
}

func (m *model) fill(frame, at int, data string) api.Errno {
	if frame < 0 || frame >= len(m.Frames) || at < 0 || at+len(data) > api.SectorSize {
		return api.ErrRange
	}
	f := &m.Frames[frame]
	if f.Pins == 0 {
		return api.ErrState
	}
	f.Dirty = true
	f.Data = strings.Join([]string{f.Data[:at], data, f.Data[at+len(data):]}, "")
	return api.OK
}

func (m *model) lease(n int) ([]int, api.Errno) {
	order := m.order()
	if n < 0 {
		return nil, api.ErrRange
	}
	if len(order) < n {
		return nil, api.ErrBudget
	}
	for _, i := range order[:n] {
		if e := m.take(i); e != api.OK {
			return nil, e
		}
		m.Frames[i].Leased = true
	}
	return order[:n], api.OK
}

func (m *model) drop(name string) api.Errno {
	after := m.plain().Frames
	for i, f := range after {
		if f.Data == "" || f.Name != name {
			continue
		}
		if f.Pins > 0 {
			return api.ErrState
		}
		after[i] = api.Frame{}
	}
	m.Frames = after
	return api.OK
}

func (m *model) flush() api.Errno {
	for i := range m.Frames {
		if m.Frames[i].Dirty {
			if e := m.write(i); e != api.OK {
				return e
			}
			m.Frames[i].Dirty = false
		}
	}
	m.Disk, _ = disk.Sync(m.Disk)
	return api.OK
}

// walk is a pool and its model, which take the same steps.
type walk struct {
	t *testing.T
	r *rand.Rand
	m model
	p api.Pool
}

// start has both begin with a pool of some frames, on a disk of three extents, each sector of which is another.
func start(t *testing.T, seed uint64, frames int) *walk {
	t.Helper()
	w := &walk{t: t, r: rand.New(rand.NewPCG(seed, 5))}
	d, _ := disk.Make(12)
	c := byte('A')
	for i, name := range []string{"a", "b", longest} {
		d, _ = disk.New(d, name, 3+i)
		for sector := range 3 + i {
			d, _ = disk.Write(d, name, sector, all(string([]byte{c})))
			c++
		}
	}
	if seed%2 == 0 {
		d, _ = disk.Sync(d)
	}
	w.p, _ = pool.Make(d, frames)
	w.m = model{w.p}
	w.m.Frames = slices.Clone(w.p.Frames)
	return w
}

// name is one of the extents', or, now and then, of none.
func (w *walk) name() string {
	if w.r.IntN(25) == 0 {
		return []string{"", "none", "aa"}[w.r.IntN(3)]
	}
	return []string{"a", "b", longest}[w.r.IntN(3)]
}

// frame is one's number, or, now and then, none's.
func (w *walk) frame() int { return w.r.IntN(len(w.p.Frames)+1) - w.r.IntN(40)/39 }

// frames are some numbers, mostly of frames that are as they should be.
func (w *walk) frames(is func(f api.Frame) bool) []int {
	l := []int{}
	for range w.r.IntN(4) {
		if i := w.frame(); i >= 0 && i < len(w.p.Frames) && is(w.p.Frames[i]) || w.r.IntN(20) == 0 {
			l = append(l, i)
		}
	}
	return l
}

// step has both take the same one.
func (w *walk) step() {
	w.t.Helper()
	isPinned, isLeased := func(f api.Frame) bool { return f.Pins > 0 }, func(f api.Frame) bool { return f.Leased }
	var next api.Pool
	var e, wantE api.Errno
	what := ""
	switch k := w.r.IntN(100); {
	case k < 30:
		name, sector := w.name(), w.r.IntN(6)-w.r.IntN(20)/19
		got, want := 0, 0
		next, got, e = pool.Pin(w.p, name, sector)
		want, wantE = w.m.pin(name, sector)
		is(w.t, "the frame that is pinned", got, e, want, wantE)
		what = "Pin"
	case k < 55:
		frames := w.frames(isPinned)
		next, e = pool.Unpin(w.p, frames...)
		wantE, what = w.m.some(frames, isPinned, func(f *api.Frame) { f.Pins-- }), "Unpin"
	case k < 75:
		frame, at, data := w.frame(), w.r.IntN(66)-w.r.IntN(20)/19, all(string([]byte{byte(w.r.IntN(256))}))[:w.r.IntN(65)]
		if w.r.IntN(4) > 0 {
			at = min(at, api.SectorSize-len(data))
		}
		next, e = pool.Fill(w.p, frame, at, data)
		wantE, what = w.m.fill(frame, at, data), "Fill"
	case k < 83:
		w.lease(w.r.IntN(4) - w.r.IntN(20)/19)
		return
	case k < 92:
		frames := w.frames(isLeased)
		next, e = pool.Return(w.p, frames...)
		wantE, what = w.m.some(frames, isLeased, func(f *api.Frame) { *f = api.Frame{} }), "Return"
	case k < 96:
		name := w.name()
		next, e = pool.Drop(w.p, name)
		wantE, what = w.m.drop(name), "Drop"
	default:
		next, e = pool.Flush(w.p)
		wantE, what = w.m.flush(), "Flush"
	}
	isPool(w.t, what, next, e, w.m.plain(), wantE)
	w.p = next
}

// lease has both lease n frames.
func (w *walk) lease(n int) {
	w.t.Helper()
	next, frames, e := pool.Lease(w.p, n)
	want, wantE := w.m.lease(n)
	isPool(w.t, "Lease", next, e, w.m.plain(), wantE)
	if !slices.Equal(frames, want) {
		w.t.Fatalf("Lease: the frames %v, not %v, as they should be", frames, want)
	}
	w.p = next
}

// look holds what can be asked of the pool against what the model has.
func (w *walk) look() {
	w.t.Helper()
	if e := pool.Check(w.p); e != api.OK {
		w.t.Fatalf("a pool that is not right: error %d", e)
	}
	i := w.frame()
	s, e := pool.Look(w.p, i)
	switch {
	case w.p.Disk.Down:
		is(w.t, "Look", s, e, "", api.ErrPower)
	case i < 0 || i >= len(w.m.Frames):
		is(w.t, "Look", s, e, "", api.ErrRange)
	case w.m.Frames[i].Pins == 0:
		is(w.t, "Look", s, e, "", api.ErrState)
	default:
		is(w.t, "Look", s, e, w.m.Frames[i].Data, api.OK)
	}
	want := [3]int{}
	for _, f := range w.m.Frames {
		if f.Data != "" {
			want[0]++
		}
		if f.Pins > 0 {
			want[1]++
		}
		if f.Leased {
			want[2]++
		}
	}
	held, pinned, leased, e := pool.Counts(w.p)
	is(w.t, "Counts", [3]int{held, pinned, leased}, e, want, api.OK)
}

// 5.1 to 5.6: long walks of all kinds of steps, right ones and wrong ones, till the power goes, or to the end.
func TestWalk(t *testing.T) {
	for seed := range uint64(120) {
		w := start(t, seed, 1+int(seed%6))
		for i := range 300 {
			if i == 100 && seed%3 == 0 {
				w.p.Disk.Fuse = w.r.IntN(30)
				w.m.Disk.Fuse = w.p.Disk.Fuse
			}
			w.step()
			w.look()
			if w.p.Disk.Down {
				break
			}
		}
	}
}

// shadow is what each sector should be seen as, whatever a pool does with it.
type shadow map[string][]string

// shadowOf is what is seen of a disk.
func shadowOf(d api.Disk) shadow {
	s := shadow{}
	for _, x := range d.Extents {
		for i := range len(x.Data) / api.SectorSize {
			data, _ := disk.Read(d, x.Name, i)
			s[x.Name] = append(s[x.Name], data)
		}
	}
	return s
}

// 5.7: what is filled is looked at, however often it was taken meanwhile, and is on the disk behind a Flush.
func TestSeen(t *testing.T) {
	for seed := range uint64(40) {
		w := start(t, seed, 1+int(seed%4))
		s := shadowOf(w.p.Disk)
		for range 200 {
			name := []string{"a", "b", longest}[w.r.IntN(3)]
			sector := w.r.IntN(len(s[name]))
			p, at, e := pool.Pin(w.p, name, sector)
			got, _ := pool.Look(p, at)
			is(t, "what is looked at", got, e, s[name][sector], api.OK)
			from, data := w.r.IntN(60), all(string([]byte{byte(w.r.IntN(256))}))[:w.r.IntN(5)]
			p, _ = pool.Fill(p, at, from, data)
			s[name][sector] = got[:from] + data + got[from+len(data):]
			got, e = pool.Look(p, at)
			is(t, "what was filled", got, e, s[name][sector], api.OK)
			if w.r.IntN(20) == 0 {
				p, e = pool.Flush(p)
				crashed, _ := disk.Crash(p.Disk)
				for name, l := range shadowOf(crashed) {
					is(t, "what is on the disk", strings.Join(l, ""), e, strings.Join(s[name], ""), api.OK)
				}
			}
			w.p, _ = pool.Unpin(p, at)
		}
	}
}

// 5.8: there are never more frames, and what is pinned or leased stays what it is, whatever is done with others.
func TestBudget(t *testing.T) {
	for seed := range uint64(40) {
		w := start(t, seed, 4)
		w.p, _, _ = pool.Pin(w.p, "a", 1)
		w.p, _ = pool.Fill(w.p, 0, 0, "kept")
		w.p, _, _ = pool.Lease(w.p, 1)
		keep := slices.Clone(w.p.Frames[:2])
		for range 100 {
			p, at, e := pool.Pin(w.p, "b", w.r.IntN(4))
			if e != api.OK || at < 2 {
				t.Fatalf("Pin: frame %d, error %d", at, e)
			}
			switch w.r.IntN(4) {
			case 0:
				p, _ = pool.Fill(p, at, 0, "x")
			case 1:
				p, _ = pool.Flush(p)
				keep[0].Dirty = false
			case 2:
				var frames []int
				p, frames, _ = pool.Lease(p, 1)
				p, _ = pool.Return(p, frames...)
			}
			w.p, _ = pool.Unpin(p, at)
			if len(w.p.Frames) != 4 || !slices.Equal(w.p.Frames[:2], keep) {
				t.Fatalf("what was pinned and leased was taken: %+v", w.p.Frames)
			}
		}
	}
}
