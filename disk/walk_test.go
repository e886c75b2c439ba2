package disk_test

import (
	"maps"
	"math/rand/v2"
	"slices"
	"strings"
	"testing"

	"wringer/api"
	"wringer/disk"
)

// model is a disk as the chapter's words tell it: each extent's sectors by its name, and what waits.
type model struct {
	size  int
	has   map[string][]string
	waits []api.Write
	fuse  int
	down  bool
}

// plain is the model as plain data.
func (m *model) plain() api.Disk {
	d := api.Disk{Size: m.size, Waits: m.waits, Fuse: m.fuse, Down: m.down}
	for _, name := range slices.Sorted(maps.Keys(m.has)) {
		d.Extents = append(d.Extents, api.Extent{Name: name, Data: strings.Join(m.has[name], "")})
	}
	return d
}

// room is how many sectors are in no extent.
func (m *model) room() int {
	n := m.size
	for _, l := range m.has {
		n -= len(l)
	}
	return n
}

// forget has nothing wait for an extent.
func (m *model) forget(name string) {
	m.waits = slices.DeleteFunc(slices.Clone(m.waits), func(one api.Write) bool { return one.Name == name })
}

// isNone tells whether there is no extent of a name.
func (m *model) isNone(name string) bool { return m.has[name] == nil }

func (m *model) add(name string, sectors int) api.Errno {
	switch {
	case m.down:
		return api.ErrPower
	case name == "" || len(name) > api.MaxName || sectors < 1:
		return api.ErrRange
	case !m.isNone(name):
		return api.ErrTwice
	case sectors > m.room():
		return api.ErrFull
	}
	m.has[name] = slices.Repeat([]string{zeros(1)}, sectors)
	return api.OK
}

func (m *model) free(names []string) api.Errno {
	if m.down {
		return api.ErrPower
	}
	has, waits := maps.Clone(m.has), m.waits
	for _, name := range names {
		if m.isNone(name) {
			m.has, m.waits = has, waits
			return api.ErrNone
		}
		delete(m.has, name)
		m.forget(name)
	}
	return api.OK
}

func (m *model) move(from, to string) api.Errno {
	switch {
	case m.down:
		return api.ErrPower
	case to == "" || len(to) > api.MaxName:
		return api.ErrRange
	case m.isNone(from):
		return api.ErrNone
	case from == to:
		return api.OK
	}
	m.forget(to)
	m.has[to] = m.has[from]
	delete(m.has, from)
	for i := range m.waits {
		if m.waits[i].Name == from {
			m.waits[i].Name = to
		}
	}
	return api.OK
}

func (m *model) wrong(name string, sector int) api.Errno {
	switch {
	case m.down:
		return api.ErrPower
	case m.isNone(name):
		return api.ErrNone
	case sector < 0 || sector >= len(m.has[name]):
		return api.ErrRange
	}
	return api.OK
}

func (m *model) read(name string, sector int) (string, api.Errno) {
	if e := m.wrong(name, sector); e != api.OK {
		return "", e
	}
	s := m.has[name][sector]
	for _, one := range m.waits {
		if one.Name == name && one.Sector == sector {
			s = one.Data
		}
	}
	return s, api.OK
}

func (m *model) write(name string, sector int, data string) api.Errno {
	if e := m.wrong(name, sector); e != api.OK {
		return e
	}
	if len(data) != api.SectorSize {
		return api.ErrForm
	}
	m.waits = append(slices.Clone(m.waits), api.Write{Name: name, Sector: sector, Data: data})
	switch {
	case m.fuse == 0:
		m.down = true
		return api.ErrPower
	case m.fuse > 0:
		m.fuse--
	}
	return api.OK
}

func (m *model) settle(keep []bool) {
	for i, one := range m.waits {
		if i < len(keep) && keep[i] {
			m.has[one.Name] = slices.Clone(m.has[one.Name])
			m.has[one.Name][one.Sector] = one.Data
		}
	}
	m.waits = nil
}

func (m *model) sync() api.Errno {
	if m.down {
		return api.ErrPower
	}
	m.settle(slices.Repeat([]bool{true}, len(m.waits)))
	return api.OK
}

func (m *model) crash(keep []bool) api.Errno {
	m.settle(keep)
	m.down, m.fuse = false, -1
	return api.OK
}

// walk is a disk and its model, which take the same steps.
type walk struct {
	t *testing.T
	r *rand.Rand
	m model
	d api.Disk
}

// pick is one of some names; few of them, so that they meet.
func (w *walk) pick() string {
	names := []string{"a", "b", "ab", "a\x00", "\xff", longest}
	if w.r.IntN(20) == 0 {
		names = []string{"", "none", longest + "n"}
	}
	return names[w.r.IntN(len(names))]
}

// data is a sector's, or, now and then, is none.
func (w *walk) data() string {
	s := all(string([]byte{byte(w.r.IntN(256))}))
	if w.r.IntN(30) == 0 {
		return (s + s)[:w.r.IntN(2*api.SectorSize)]
	}
	return s
}

// look holds what can be asked of the disk against what the model tells.
func (w *walk) look() {
	w.t.Helper()
	name, sector := w.pick(), w.r.IntN(7)-1
	wantS, wantE := w.m.read(name, sector)
	s, e := disk.Read(w.d, name, sector)
	is(w.t, "Read", s, e, wantS, wantE)
	wantN, wantE := len(w.m.has[name]), api.OK
	if wantE = w.m.wrong(name, 0); wantE != api.OK {
		wantN = 0
	}
	n, e := disk.Sectors(w.d, name)
	is(w.t, "Sectors", n, e, wantN, wantE)
	wantN, wantE = w.m.room(), api.OK
	if w.m.down {
		wantN, wantE = 0, api.ErrPower
	}
	n, e = disk.Room(w.d)
	is(w.t, "Room", n, e, wantN, wantE)
}

// step has both take the same one.
func (w *walk) step() {
	w.t.Helper()
	var next api.Disk
	var e, wantE api.Errno
	what := ""
	switch k := w.r.IntN(100); {
	case k < 20:
		name, n := w.pick(), w.r.IntN(6)
		next, e = disk.New(w.d, name, n)
		wantE, what = w.m.add(name, n), "New"
	case k < 27:
		names := []string{w.pick(), w.pick(), w.pick()}[:w.r.IntN(4)]
		next, e = disk.Free(w.d, names...)
		wantE, what = w.m.free(names), "Free"
	case k < 35:
		from, to := w.pick(), w.pick()
		next, e = disk.Move(w.d, from, to)
		wantE, what = w.m.move(from, to), "Move"
	case k < 90:
		name, n, data := w.pick(), w.r.IntN(6)-1, w.data()
		next, e = disk.Write(w.d, name, n, data)
		wantE, what = w.m.write(name, n, data), "Write"
	case k < 94:
		next, e = disk.Sync(w.d)
		wantE, what = w.m.sync(), "Sync"
	default:
		keep := kept(w.r.IntN(1<<12), w.r.IntN(12))
		next, e = disk.Crash(w.d, keep...)
		wantE, what = w.m.crash(keep), "Crash"
	}
	isDisk(w.t, what, next, e, w.m.plain(), wantE)
	w.d = next
}

// 4.1 to 4.8: long walks of all kinds of steps, right ones and wrong ones.
func TestWalk(t *testing.T) {
	for seed := range uint64(60) {
		size := int(seed % 21)
		w := &walk{t: t, r: rand.New(rand.NewPCG(seed, 4)), m: model{size: size, has: map[string][]string{}, fuse: -1}}
		w.d, _ = disk.Make(size)
		for i := range 400 {
			w.step()
			w.look()
			if e := disk.Check(w.d); e != api.OK {
				t.Fatalf("behind step %d a disk that is not right: error %d", i, e)
			}
			if i%50 == 25 {
				w.m.fuse = w.r.IntN(20)
				w.d.Fuse = w.m.fuse
			}
		}
	}
}
