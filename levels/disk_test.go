package levels_test

import (
	"math/rand/v2"
	"slices"
	"strings"
	"testing"
	"unsafe"

	"wringer/api"
	"wringer/crc"
	"wringer/disk"
	"wringer/num"
	"wringer/recs"
)

// longest is a name of MaxName bytes.
var longest = strings.Repeat("n", api.MaxName)

// all is a sector that has nothing but c.
func all(c string) string { return strings.Repeat(c, api.SectorSize) }

// some makes a list of so many numbers, from 1 to one that is told, the same at each run.
func some(many int, highest uint64) []uint64 {
	r := rand.New(rand.NewPCG(uint64(many), highest))
	l := make([]uint64, many)
	for i := range l {
		l[i] = 1 + r.Uint64N(highest)
	}
	return l
}

// repeated makes a list of so many numbers, of some that come again and again.
func repeated(many int, l ...uint64) []uint64 {
	return slices.Repeat(l, many/len(l)+1)[:many]
}

// rising makes a list of so many numbers, from one on.
func rising(from uint64, many int) []uint64 {
	l := make([]uint64, many)
	for i := range l {
		l[i] = from + uint64(i)
	}
	return l
}

// shapes are lists of so many numbers.
func shapes(many int) map[string][]uint64 {
	falling := rising(1, many)
	slices.Reverse(falling)
	return map[string][]uint64{
		"all 1":                 repeated(many, 1),
		"all the highest":       repeated(many, api.MaxNum-1),
		"rising":                rising(1, many),
		"falling":               falling,
		"rising to the highest": rising(api.MaxNum-uint64(many), many),
		"two in turns":          repeated(many, 2, 1),
		"three in turns":        repeated(many, 1, 1, 2),
		"four in turns":         repeated(many, 2, 1, 1, 1),
		"any of two":            some(many, 2),
		"any":                   some(many, api.MaxNum-1),
	}
}

// file is a file of records that is to be on a disk.
type file struct {
	name    string
	width   int
	records [][]uint64
}

// list is the file of a list.
func list(name string, l []uint64) file {
	return file{name, 1, slices.Collect(slices.Chunk(slices.Clone(l), 1))}
}

// body is a file's extent, by the words of chapter 6.
func body(f file) api.Extent {
	many, _ := num.Put(uint64(len(f.records)))
	head, _ := crc.Frame("WR" + string([]byte{byte(f.width)}) + many)
	data := new(strings.Builder)
	data.WriteString(head + all("\x00")[len(head):])
	for _, one := range f.records {
		record, _ := num.Record(one...)
		data.WriteString(record)
	}
	data.WriteString(strings.Repeat("\x00", (api.SectorSize-data.Len()%api.SectorSize)%api.SectorSize))
	return api.Extent{Name: f.name, Data: data.String()}
}

// sectors are how many sectors a list's file of so many numbers has.
func sectors(many int) int { return 1 + (5*many+api.SectorSize-1)/api.SectorSize }

// used are how many sectors of a disk are in extents.
func used(d api.Disk) int {
	many := 0
	for _, x := range d.Extents {
		many += len(x.Data) / api.SectorSize
	}
	return many
}

// changed is a disk with something done to it by hand.
func changed(d api.Disk, by func(d *api.Disk)) api.Disk {
	d.Extents, d.Waits = slices.Clone(d.Extents), slices.Clone(d.Waits)
	by(&d)
	return d
}

// place tells where an extent stands on a disk; -1, if there is none.
func place(d api.Disk, name string) int {
	return slices.IndexFunc(d.Extents, func(x api.Extent) bool { return x.Name == name })
}

// put is a disk with a file more, whatever room there is.
func put(d api.Disk, f file) api.Disk {
	return changed(d, func(d *api.Disk) {
		d.Extents = append(d.Extents, body(f))
		slices.SortFunc(d.Extents, func(a, b api.Extent) int { return strings.Compare(a.Name, b.Name) })
	})
}

// gone is a disk without an extent.
func gone(d api.Disk, name string) api.Disk {
	return changed(d, func(d *api.Disk) {
		d.Extents = slices.DeleteFunc(d.Extents, func(x api.Extent) bool { return x.Name == name })
		d.Waits = slices.DeleteFunc(d.Waits, func(w api.Write) bool { return w.Name == name })
	})
}

// roomy is a disk with so much room.
func roomy(d api.Disk, room int) api.Disk {
	return changed(d, func(d *api.Disk) { d.Size = used(*d) + room })
}

// fused is a disk with power for so many writes.
func fused(d api.Disk, fuse int) api.Disk {
	return changed(d, func(d *api.Disk) { d.Fuse = fuse })
}

// turned is a disk with a byte of an extent that is another.
func turned(d api.Disk, name string, at int) api.Disk {
	return changed(d, func(d *api.Disk) {
		i := place(*d, name)
		data := []byte(d.Extents[i].Data)
		data[at] ^= 1
		d.Extents[i].Data = string(data)
	})
}

// with is a disk with these files, an extent that is no file, and some room.
func with(t *testing.T, room int, files ...file) api.Disk {
	t.Helper()
	d := api.Disk{Extents: []api.Extent{{Name: "raw", Data: all("1") + all("2")}}, Fuse: -1}
	for _, f := range files {
		d = put(d, f)
	}
	d = roomy(d, room)
	if e := disk.Check(d); e != api.OK {
		t.Fatalf("a disk with files: error %d", e)
	}
	return d
}

// synced is a disk with all done that waited.
func synced(d api.Disk) api.Disk {
	d, _ = disk.Sync(d)
	return d
}

// alike holds two disks against each other; nil and empty lists are alike.
func alike(a, b api.Disk) bool {
	return a.Size == b.Size && a.Fuse == b.Fuse && a.Down == b.Down && slices.Equal(a.Extents, b.Extents) && slices.Equal(a.Waits, b.Waits)
}

// read is the list of a file; what is behind its body may be anything.
func read(t *testing.T, d api.Disk, name string) []uint64 {
	t.Helper()
	d = synced(d)
	width, count, e := recs.Head(d, name)
	if e != api.OK || width != 1 {
		t.Fatalf("%s: error %d, a width of %d", name, e, width)
	}
	l, e := num.Split(d.Extents[place(d, name)].Data[api.SectorSize:][:5*count], 1)
	if e != api.OK {
		t.Fatalf("%s: error %d", name, e)
	}
	return slices.Concat(l...)
}

// texts are all a disk's, by where they lie; the empty one lies nowhere.
func texts(d api.Disk) map[*byte]int {
	of := map[*byte]int{}
	for _, x := range d.Extents {
		of[unsafe.StringData(x.Name)]++
		of[unsafe.StringData(x.Data)]++
	}
	for _, one := range d.Waits {
		of[unsafe.StringData(one.Name)]++
		of[unsafe.StringData(one.Data)]++
	}
	return of
}

// shares tells whether two disks share a list or a text.
func shares(a, b api.Disk) bool {
	of := texts(a)
	for text := range texts(b) {
		if of[text] > 0 {
			return true
		}
	}
	return len(a.Extents)*len(b.Extents) > 0 && &a.Extents[0] == &b.Extents[0] || len(a.Waits)*len(b.Waits) > 0 && &a.Waits[0] == &b.Waits[0]
}

// keeps are some of what may be kept of so many writes: none, all, each one alone, all but each, and others.
func keeps(n int) [][]bool {
	l := [][]bool{nil, slices.Repeat([]bool{true}, n)}
	r := rand.New(rand.NewPCG(15, uint64(n)))
	for i := range n {
		one, but, any := make([]bool, n), slices.Repeat([]bool{true}, n), make([]bool, n)
		one[i], but[i] = true, false
		for j := range any {
			any[j] = r.IntN(2) == 0
		}
		l = append(l, one, but, any)
	}
	return l
}
