package stream

import (
	"math"

	"wringer/api"
	"wringer/disk"
	"wringer/layout"
	"wringer/num"
	"wringer/pool"
	"wringer/recs"
)

// batch is how many writes wait till they are synced: the more there are that wait, the longer each one takes.
const batch = 16

// maker puts a new file's records, one behind the other. It gathers them in the memory of a frame that it leases, and writes them past the others: there each sector would be read ahead of being filled. Each write makes new memory of its disk: this one's has the new file's next sectors alone.
type maker struct {
	*Work
	name   string
	width  int
	count  uint64
	data   []byte   // all sectors of the new file, but for what waits
	next   api.Disk // some of them, that may be written to
	from   int      // the first one of these
	sector int      // the one that was written last
	part   string   // what was put, and is in no sector that was written
	leased []int    // the frame whose memory that is
}

// Make has a new file of count records, that fill puts, making no other file; of width 0 it is a text's, and each record a byte. Its head is written when its body is synced: no crash leaves a head without what it tells of.
func (w *Work) Make(name string, width int, count uint64, fill func(put func(record []uint64) error) error) error {
	m := &maker{Work: w, name: name, width: width, count: count}
	if err := m.begin(); err != nil {
		return err
	}
	err := fill(m.put)
	if err == nil {
		err = m.end()
	}
	m.settle()
	return err
}

// May tells why there may be no new file of that name, width and count.
func (w *Work) May(name string, width int, count uint64) error {
	_, err := w.with(name, width, count)
	return err
}

// with tells the disk with an extent for a new file.
func (w *Work) with(name string, width int, count uint64) (api.Disk, error) {
	need, e := recs.Need(width, count)
	if e != api.OK {
		return api.Disk{}, At(name, e)
	}
	d, e := disk.New(w.all, name, need)
	return d, At(name, e)
}

// begin has the new file's extent, and a frame for what is put.
func (m *maker) begin() error {
	all, err := m.with(m.name, m.width, m.count)
	if err != nil {
		return err
	}
	var e api.Errno
	m.Pool, m.leased, e = pool.Lease(m.Pool, 1)
	if e != api.OK {
		return At(m.name, e)
	}
	m.all = all
	at, _ := place(m.all, m.name)
	m.data = []byte(m.all.Extents[at].Data)
	m.next = api.Disk{Size: m.all.Size, Fuse: m.all.Fuse}
	m.shift(0)
	return nil
}

// shift has the sectors from one on be those that may be written to: as many as may wait. From past the last one on there are none, and those ahead stay.
func (m *maker) shift(from int) {
	at, end := from*api.SectorSize, min((from+batch)*api.SectorSize, len(m.data))
	if at < end {
		m.next.Extents, m.from = []api.Extent{{Name: m.name, Data: string(m.data[at:end])}}, from
	}
}

// settle has the disk of the operation be what it is with the new file as that is now.
func (m *maker) settle() {
	at, _ := place(m.all, m.name)
	m.all.Extents[at].Data = string(m.data)
	for i := range m.next.Waits {
		m.next.Waits[i].Sector += m.from
	}
	m.all.Waits, m.all.Fuse, m.all.Down = m.next.Waits, m.next.Fuse, m.next.Down
}

// put has a record stand behind those that were put.
func (m *maker) put(record []uint64) error {
	s, e := join(record, m.width)
	if e != api.OK {
		return at(m.name, m.sector, e)
	}
	m.part += s
	if len(m.part) < api.SectorSize {
		return nil
	}
	return m.turn()
}

// join tells a record's bytes.
func join(record []uint64, width int) (string, api.Errno) {
	if width > 0 {
		return num.Record(record...)
	}
	if len(record) != 1 || record[0] > math.MaxUint8 {
		return "", api.ErrRange
	}
	return string([]byte{byte(record[0])}), api.OK
}

// turn writes what was put, as much of it as a sector has, to the next one.
func (m *maker) turn() error {
	size := min(len(m.part), api.SectorSize)
	m.sector++
	err := m.write(m.sector, m.part[:size])
	m.part = m.part[size:]
	if err == nil && len(m.next.Waits) >= batch {
		err = m.sync()
	}
	return err
}

// end writes what is left of the body, then the head.
func (m *maker) end() error {
	var err error
	if m.part != "" {
		err = m.turn()
	}
	if err == nil {
		err = m.sync()
	}
	if err == nil {
		err = m.write(0, layout.Head(m.width, int(m.count)))
	}
	if err == nil {
		err = m.sync()
	}
	if err != nil {
		return err
	}
	var e api.Errno
	m.Pool, e = pool.Return(m.Pool, m.leased...)
	return At(m.name, e)
}

// write has a sector of the new file wait.
func (m *maker) write(sector int, s string) error {
	if len(m.next.Waits) == 0 {
		m.shift(sector)
	}
	var e api.Errno
	m.next, e = disk.Write(m.next, m.name, sector-m.from, layout.Sector(s))
	m.Writes++
	return at(m.name, sector, e)
}

// sync has all that waits be done.
func (m *maker) sync() error {
	var e api.Errno
	m.next, e = disk.Sync(m.next)
	copy(m.data[m.from*api.SectorSize:], m.next.Extents[0].Data)
	return at(m.name, m.sector, e)
}
