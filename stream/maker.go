package stream

import (
	"wringer/api"
	"wringer/disk"
	"wringer/layout"
	"wringer/num"
	"wringer/pool"
	"wringer/recs"
)

// batch is how many writes wait till they are synced: the more there are that wait, the longer each one takes.
const batch = 16

// maker puts a new file's records, one behind the other. It gathers them in the memory of a frame that it leases, and writes them past the others: there each sector would be read ahead of being filled. Each write makes new memory of its disk: this one's has no extent but the new one.
type maker struct {
	*Work
	file   api.Disk
	name   string
	width  int
	count  uint64
	sector int    // the one that was written last
	part   string // what was put, and is in no sector that was written
	leased []int  // the frame whose memory that is
}

// Make has a new file of count records, that fill puts, making no other file. Its head is written when its body is synced: no crash leaves a head without what it tells of.
func (w *Work) Make(name string, width int, count uint64, fill func(put func(record []uint64) error) error) error {
	m := &maker{Work: w, name: name, width: width, count: count}
	if err := m.begin(); err != nil {
		return err
	}
	err := fill(m.put)
	if err == nil {
		err = m.end()
	}
	m.settle()
	return err
}

// begin has the new file's extent, and a frame for what is put.
func (m *maker) begin() error {
	need, e := recs.Need(m.width, m.count)
	if e == api.OK {
		m.all, e = disk.New(m.all, m.name, need)
	}
	if e == api.OK {
		m.Pool, m.leased, e = pool.Lease(m.Pool, 1)
	}
	if e != api.OK {
		return At(m.name, e)
	}
	at, _ := place(m.all, m.name)
	m.file = api.Disk{Size: m.all.Size, Extents: []api.Extent{m.all.Extents[at]}, Fuse: m.all.Fuse}
	return nil
}

// settle has the disk of the operation be what it is with the new file as that is now.
func (m *maker) settle() {
	at, _ := place(m.all, m.name)
	m.all.Extents[at] = m.file.Extents[0]
	m.all.Waits, m.all.Fuse, m.all.Down = m.file.Waits, m.file.Fuse, m.file.Down
}

// put has a record stand behind those that were put.
func (m *maker) put(record []uint64) error {
	s, e := num.Record(record...)
	if e != api.OK {
		return at(m.name, m.sector, e)
	}
	m.part += s
	if len(m.part) < api.SectorSize {
		return nil
	}
	return m.turn()
}

// turn writes what was put, as much of it as a sector has, to the next one.
func (m *maker) turn() error {
	size := min(len(m.part), api.SectorSize)
	m.sector++
	err := m.write(m.sector, m.part[:size])
	m.part = m.part[size:]
	if err == nil && len(m.file.Waits) >= batch {
		err = m.sync()
	}
	return err
}

// end writes what is left of the body, then the head.
func (m *maker) end() error {
	var err error
	if m.part != "" {
		err = m.turn()
	}
	if err == nil {
		err = m.sync()
	}
	if err == nil {
		err = m.write(0, layout.Head(m.width, int(m.count)))
	}
	if err == nil {
		err = m.sync()
	}
	if err != nil {
		return err
	}
	var e api.Errno
	m.Pool, e = pool.Return(m.Pool, m.leased...)
	return At(m.name, e)
}

// write has a sector of the new file wait.
func (m *maker) write(sector int, s string) error {
	var e api.Errno
	m.file, e = disk.Write(m.file, m.name, sector, layout.Sector(s))
	m.Writes++
	return at(m.name, sector, e)
}

// sync has all that waits be done.
func (m *maker) sync() error {
	var e api.Errno
	m.file, e = disk.Sync(m.file)
	return at(m.name, m.sector, e)
}
