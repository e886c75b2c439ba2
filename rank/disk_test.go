package rank_test

import (
	"math/rand/v2"
	"slices"
	"strings"
	"testing"
	"unsafe"

	"wringer/api"
	"wringer/crc"
	"wringer/disk"
	"wringer/num"
)

// longest is a name of MaxName bytes.
var longest = strings.Repeat("n", api.MaxName)

// all is a sector that has nothing but c.
func all(c string) string { return strings.Repeat(c, api.SectorSize) }

// some makes a text of so many bytes, of as many letters as are told, the same at each run.
func some(many, letters int) string {
	r := rand.New(rand.NewPCG(uint64(many), uint64(letters)))
	text := make([]byte, many)
	for i := range text {
		text[i] = byte(256 - letters + r.IntN(letters))
	}
	return string(text)
}

// falling is a text of so many bytes, each less than the one ahead of it, as long as there are such.
func falling(many int) string {
	text := make([]byte, many)
	for i := range text {
		text[i] = byte(many - i)
	}
	return string(text)
}

// shapes are texts of so many bytes.
func shapes(many int) map[string]string {
	return map[string]string{
		"all 0":         strings.Repeat("\x00", many),
		"all the most":  strings.Repeat("\xff", many),
		"falling":       falling(many),
		"two in turns":  strings.Repeat("ba", many)[:many],
		"bananas":       strings.Repeat("banana", many)[:many],
		"any of two":    some(many, 2),
		"any":           some(many, 256),
		"0 at the end":  strings.Repeat("x", max(0, many-2)) + strings.Repeat("\x00", min(2, many)),
		"0 ahead of it": strings.Repeat("\x00", min(2, many)) + strings.Repeat("x", max(0, many-2)),
	}
}

// file is a file that is to be on a disk: of bytes, if its width is 0, else of records.
type file struct {
	name    string
	width   int
	records [][]uint64
	text    string
}

// textFile is the file of a text.
func textFile(name, text string) file { return file{name: name, text: text} }

// pairs is a file of numbers, each behind its place.
func pairs(name string, l ...uint64) file {
	records := [][]uint64{}
	for i, number := range l {
		records = append(records, []uint64{uint64(i), number})
	}
	return file{name: name, width: 2, records: records}
}

// body is a file's extent, by the words of chapter 6.
func body(f file) api.Extent {
	many, _ := num.Put(uint64(len(f.records) + len(f.text)))
	head, _ := crc.Frame("WR" + string([]byte{byte(f.width)}) + many)
	data := new(strings.Builder)
	data.WriteString(head + all("\x00")[len(head):] + f.text)
	for _, one := range f.records {
		record, _ := num.Record(one...)
		data.WriteString(record)
	}
	data.WriteString(strings.Repeat("\x00", (api.SectorSize-data.Len()%api.SectorSize)%api.SectorSize))
	return api.Extent{Name: f.name, Data: data.String()}
}

// sectors are how many sectors a text's file of so many bytes has, and pairSectors those of a file of so many pairs.
func sectors(many int) int     { return 1 + (many+api.SectorSize-1)/api.SectorSize }
func pairSectors(many int) int { return sectors(10 * many) }

// used are how many sectors of a disk are in extents.
func used(d api.Disk) int {
	many := 0
	for _, x := range d.Extents {
		many += len(x.Data) / api.SectorSize
	}
	return many
}

// changed is a disk with something done to it by hand.
func changed(d api.Disk, by func(d *api.Disk)) api.Disk {
	d.Extents, d.Waits = slices.Clone(d.Extents), slices.Clone(d.Waits)
	by(&d)
	return d
}

// place tells where an extent stands on a disk; -1, if there is none.
func place(d api.Disk, name string) int {
	return slices.IndexFunc(d.Extents, func(x api.Extent) bool { return x.Name == name })
}

// put is a disk with a file more, whatever room there is.
func put(d api.Disk, f file) api.Disk {
	return changed(d, func(d *api.Disk) {
		d.Extents = append(d.Extents, body(f))
		slices.SortFunc(d.Extents, func(a, b api.Extent) int { return strings.Compare(a.Name, b.Name) })
	})
}

// gone is a disk without an extent.
func gone(d api.Disk, name string) api.Disk {
	return changed(d, func(d *api.Disk) {
		d.Extents = slices.DeleteFunc(d.Extents, func(x api.Extent) bool { return x.Name == name })
		d.Waits = slices.DeleteFunc(d.Waits, func(w api.Write) bool { return w.Name == name })
	})
}

// roomy is a disk with so much room.
func roomy(d api.Disk, room int) api.Disk {
	return changed(d, func(d *api.Disk) { d.Size = used(*d) + room })
}

// fused is a disk with power for so many writes.
func fused(d api.Disk, fuse int) api.Disk {
	return changed(d, func(d *api.Disk) { d.Fuse = fuse })
}

// turned is a disk with a byte of an extent that is another.
func turned(d api.Disk, name string, at int) api.Disk {
	return changed(d, func(d *api.Disk) {
		i := place(*d, name)
		data := []byte(d.Extents[i].Data)
		data[at] ^= 1
		d.Extents[i].Data = string(data)
	})
}

// with is a disk with these files, an extent that is no file, and some room.
func with(t *testing.T, room int, files ...file) api.Disk {
	t.Helper()
	d := api.Disk{Extents: []api.Extent{{Name: "raw", Data: all("1") + all("2")}}, Fuse: -1}
	for _, f := range files {
		d = put(d, f)
	}
	d = roomy(d, room)
	if e := disk.Check(d); e != api.OK {
		t.Fatalf("a disk with files: error %d", e)
	}
	return d
}

// synced is a disk with all done that waited.
func synced(d api.Disk) api.Disk {
	d, _ = disk.Sync(d)
	return d
}

// alike holds two disks against each other; nil and empty lists are alike.
func alike(a, b api.Disk) bool {
	return a.Size == b.Size && a.Fuse == b.Fuse && a.Down == b.Down && slices.Equal(a.Extents, b.Extents) && slices.Equal(a.Waits, b.Waits)
}

// texts are all a disk's, by where they lie; the empty one lies nowhere.
func texts(d api.Disk) map[*byte]int {
	of := map[*byte]int{}
	for _, x := range d.Extents {
		of[unsafe.StringData(x.Name)]++
		of[unsafe.StringData(x.Data)]++
	}
	for _, one := range d.Waits {
		of[unsafe.StringData(one.Name)]++
		of[unsafe.StringData(one.Data)]++
	}
	return of
}

// shares tells whether two disks share a list or a text.
func shares(a, b api.Disk) bool {
	of := texts(a)
	for text := range texts(b) {
		if of[text] > 0 {
			return true
		}
	}
	return len(a.Extents)*len(b.Extents) > 0 && &a.Extents[0] == &b.Extents[0] || len(a.Waits)*len(b.Waits) > 0 && &a.Waits[0] == &b.Waits[0]
}

// keeps are some of what may be kept of so many writes: none, all, each one alone, all but each, and others.
func keeps(n int) [][]bool {
	l := [][]bool{nil, slices.Repeat([]bool{true}, n)}
	r := rand.New(rand.NewPCG(17, uint64(n)))
	for i := range n {
		one, but, any := make([]bool, n), slices.Repeat([]bool{true}, n), make([]bool, n)
		one[i], but[i] = true, false
		for j := range any {
			any[j] = r.IntN(2) == 0
		}
		l = append(l, one, but, any)
	}
	return l
}
