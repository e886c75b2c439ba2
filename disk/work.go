package disk

import (
	"slices"
	"strings"

	"wringer/api"
)

// work is a disk at work: the plain one's lists and texts are its own, so that they are changed on the spot; bodies are bytes of extents while they are written.
type work struct {
	api.Disk
	bodies [][]byte
}

// begin has a copy of d at work, with room for one extent, and one write, more.
func begin(d api.Disk) *work {
	w := &work{Disk: d}
	w.Extents = make([]api.Extent, 0, len(d.Extents)+1)
	for _, x := range d.Extents {
		w.Extents = append(w.Extents, api.Extent{Name: strings.Clone(x.Name), Data: strings.Clone(x.Data)})
	}
	w.Waits = make([]api.Write, 0, len(d.Waits)+1)
	for _, one := range d.Waits {
		w.wait(one.Name, one.Sector, one.Data)
	}
	return w
}

// wait has a write wait behind all others.
func (w *work) wait(name string, sector int, data string) {
	w.Waits = append(w.Waits, api.Write{Name: strings.Clone(name), Sector: sector, Data: strings.Clone(data)})
}

// insert has an extent stand where its name belongs.
func (w *work) insert(x api.Extent) {
	at, _ := place(w.Disk, x.Name)
	w.Extents = slices.Insert(w.Extents, at, x)
}

// add has an extent more, all of it 0.
func (w *work) add(name string, sectors int) api.Errno {
	if !isName(name) || sectors < 1 {
		return api.ErrRange
	}
	if _, is := place(w.Disk, name); is {
		return api.ErrTwice
	}
	if sectors > room(w.Disk) {
		return api.ErrFull
	}
	zeros := make([]byte, sectors*api.SectorSize)
	w.insert(api.Extent{Name: strings.Clone(name), Data: string(zeros)})
	return api.OK
}

// free has extents be no more: none of them, if one is not there, or is told twice.
func (w *work) free(names []string) api.Errno {
	told := make(map[string]int, len(names))
	for _, name := range names {
		told[name]++
		if _, is := place(w.Disk, name); !is || told[name] > 1 {
			return api.ErrNone
		}
	}
	w.drop(func(name string) bool { return told[name] > 0 })
	return api.OK
}

// drop has all extents be no more whose names are told, and what waits for them neither.
func (w *work) drop(isTold func(name string) bool) {
	w.Extents = slices.DeleteFunc(w.Extents, func(x api.Extent) bool { return isTold(x.Name) })
	w.Waits = slices.DeleteFunc(w.Waits, func(one api.Write) bool { return isTold(one.Name) })
}

// move has an extent, and what waits for it, be called otherwise.
func (w *work) move(from, to string) api.Errno {
	if !isName(to) {
		return api.ErrRange
	}
	if _, is := place(w.Disk, from); !is {
		return api.ErrNone
	}
	if from == to {
		return api.OK
	}
	w.drop(func(name string) bool { return name == to })
	// Dropping may have changed where it stands.
	at, _ := place(w.Disk, from)
	data := w.Extents[at].Data
	w.Extents = slices.Delete(w.Extents, at, at+1)
	w.insert(api.Extent{Name: strings.Clone(to), Data: data})
	for i, one := range w.Waits {
		if one.Name == from {
			w.Waits[i].Name = strings.Clone(to)
		}
	}
	return api.OK
}

// write has a sector's data wait; the last write that there is no power for waits, too.
func (w *work) write(name string, sector int, data string) api.Errno {
	if _, e := find(w.Disk, name, sector); e != api.OK {
		return e
	}
	if len(data) != api.SectorSize {
		return api.ErrForm
	}
	if len(w.Waits) == api.MaxWaits {
		return api.ErrFull
	}
	w.wait(name, sector, data)
	if w.Fuse == 0 {
		w.Down = true
		return api.ErrPower
	}
	if w.Fuse > 0 {
		w.Fuse--
	}
	return api.OK
}

// settle has each write that is to be kept be done, the eldest first; then nothing waits.
func (w *work) settle(isKept func(i int) bool) {
	w.bodies = make([][]byte, len(w.Extents))
	for i, one := range w.Waits {
		if isKept(i) {
			copy(w.body(one.Name)[one.Sector*api.SectorSize:], one.Data)
		}
	}
	for at, body := range w.bodies {
		if body != nil {
			w.Extents[at].Data = string(body)
		}
	}
	w.bodies = nil
	w.Waits = nil
}

// body tells an extent's bytes, which are the same ones each time.
func (w *work) body(name string) []byte {
	at, _ := place(w.Disk, name)
	if w.bodies[at] == nil {
		w.bodies[at] = []byte(w.Extents[at].Data)
	}
	return w.bodies[at]
}
