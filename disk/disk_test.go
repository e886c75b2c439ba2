package disk_test

import (
	"math"
	"runtime"
	"slices"
	"strconv"
	"strings"
	"testing"
	"unsafe"

	"wringer/api"
	"wringer/disk"
)

// longest is a name of MaxName bytes.
var longest = strings.Repeat("n", api.MaxName)

// all is a sector that has nothing but c.
func all(c string) string { return strings.Repeat(c, api.SectorSize) }

// zeros is n sectors of 0.
func zeros(n int) string { return strings.Repeat(all("\x00"), n) }

// right is a disk made by hand: 7 of 9 sectors are in extents, and four writes wait, two of them to one sector.
func right() api.Disk {
	return api.Disk{
		Size: 9,
		Extents: []api.Extent{
			{Name: "a", Data: all("1") + all("2") + all("3")},
			{Name: "b", Data: all("4")},
			{Name: "c\x00", Data: all("5") + all("6")},
			{Name: longest, Data: all("7")},
		},
		Waits: []api.Write{
			{Name: "a", Sector: 2, Data: all("w")},
			{Name: "b", Sector: 0, Data: all("x")},
			{Name: "a", Sector: 2, Data: all("y")},
			{Name: "c\x00", Sector: 1, Data: all("z")},
		},
		Fuse: -1,
	}
}

// changed is the right disk with something done to it by hand.
func changed(by func(d *api.Disk)) api.Disk {
	d := right()
	by(&d)
	return d
}

// manyWaits is a disk on which so many writes wait.
func manyWaits(n int) api.Disk {
	return changed(func(d *api.Disk) {
		d.Waits = slices.Repeat([]api.Write{{Name: "b", Data: all("w")}}, n)
	})
}

// full is a disk of MaxSectors sectors, all of them in as many extents.
func full() api.Disk {
	d := api.Disk{Size: api.MaxSectors, Fuse: -1}
	for i := range api.MaxSectors {
		d.Extents = append(d.Extents, api.Extent{Name: strconv.Itoa(100000 + i), Data: zeros(1)})
	}
	return d
}

// rights are disks that are right, and just so.
func rights() []api.Disk {
	return []api.Disk{
		{},
		{Fuse: -1},
		{Size: api.MaxSectors, Extents: []api.Extent{}, Waits: []api.Write{}},
		{Size: 1, Extents: []api.Extent{{Name: "\x00", Data: zeros(1)}}},
		{Size: api.MaxSectors, Extents: []api.Extent{{Name: "a", Data: zeros(api.MaxSectors)}}},
		right(),
		full(),
		manyWaits(api.MaxWaits),
		changed(func(d *api.Disk) { d.Size = 7 }),
		changed(func(d *api.Disk) { d.Fuse = 0 }),
		changed(func(d *api.Disk) { d.Fuse = math.MaxInt }),
		changed(func(d *api.Disk) { d.Down = true }),
		changed(func(d *api.Disk) { d.Down, d.Fuse = true, 0 }),
	}
}

// wrongs are disks made by hand that are not right.
func wrongs() []api.Disk {
	l := []api.Disk{}
	add := func(by func(d *api.Disk)) { l = append(l, changed(by)) }
	for _, n := range []int{-1, math.MinInt, 0, 6, api.MaxSectors + 1, math.MaxInt} {
		add(func(d *api.Disk) { d.Size = n })
	}
	for _, n := range []int{-2, -3, math.MinInt} {
		add(func(d *api.Disk) { d.Fuse = n })
	}
	for _, name := range []string{"", longest + "n", "b", "b\x00", "c", strings.Repeat("A", 1000)} {
		add(func(d *api.Disk) { d.Extents[0].Name, d.Waits = name, nil })
	}
	for _, name := range []string{"a", "", "b", "0", "o", longest} {
		add(func(d *api.Disk) { d.Extents[2].Name, d.Waits = name, nil })
	}
	for _, data := range []string{"", "x", all("x")[1:], all("x") + "x", zeros(2)[1:], zeros(4), zeros(api.MaxSectors)} {
		add(func(d *api.Disk) { d.Extents[1].Data = data })
		add(func(d *api.Disk) { d.Extents[3].Data = data })
	}
	for _, name := range []string{"", "aa", "c", "d", "A", longest[1:], longest + "n"} {
		add(func(d *api.Disk) { d.Waits[2].Name = name })
	}
	for _, n := range []int{-1, 3, 4, math.MinInt, math.MaxInt, math.MaxInt / api.SectorSize} {
		add(func(d *api.Disk) { d.Waits[2].Sector = n })
	}
	for _, data := range []string{"", "x", all("x")[1:], all("x") + "x", zeros(2)} {
		add(func(d *api.Disk) { d.Waits[3].Data = data })
	}
	add(func(d *api.Disk) { d.Extents = nil })
	add(func(d *api.Disk) { d.Extents = d.Extents[:2] })
	add(func(d *api.Disk) { d.Extents[0], d.Extents[1] = d.Extents[1], d.Extents[0] })
	return append(l, manyWaits(api.MaxWaits+1), api.Disk{Waits: make([]api.Write, 1)}, api.Disk{Size: 2, Extents: make([]api.Extent, 1)})
}

// alike holds two disks against each other; nil and empty lists are alike.
func alike(a, b api.Disk) bool {
	return a.Size == b.Size && a.Fuse == b.Fuse && a.Down == b.Down && slices.Equal(a.Extents, b.Extents) && slices.Equal(a.Waits, b.Waits)
}

// isDisk holds a disk and an error against what they should be.
func isDisk(t *testing.T, what string, got api.Disk, e api.Errno, want api.Disk, wantE api.Errno) {
	t.Helper()
	if !alike(got, want) || e != wantE {
		t.Fatalf("%s: %+v, error %d; not %+v, error %d, as it should be", what, got, e, want, wantE)
	}
}

// is holds an answer and an error against what they should be.
func is[T comparable](t *testing.T, what string, got T, e api.Errno, want T, wantE api.Errno) {
	t.Helper()
	if got != want || e != wantE {
		t.Fatalf("%s: %v, error %d; not %v, error %d, as it should be", what, got, e, want, wantE)
	}
}

// sees holds what is seen of a sector against what it should be.
func sees(t *testing.T, d api.Disk, name string, sector int, want string) {
	t.Helper()
	got, e := disk.Read(d, name, sector)
	is(t, "what is seen of "+name+" at "+strconv.Itoa(sector), got, e, want, api.OK)
}

func TestExample(t *testing.T) {
	d, _ := disk.Make(4)
	d, _ = disk.New(d, "a", 2)
	d, _ = disk.Write(d, "a", 0, all("1"))
	d, _ = disk.Write(d, "a", 1, all("2"))
	d, e := disk.Crash(d, false, true)
	isDisk(t, "kept the second one alone", d, e, api.Disk{Size: 4, Extents: []api.Extent{{Name: "a", Data: zeros(1) + all("2")}}, Fuse: -1}, api.OK)
}

// 4.1
func TestCheck(t *testing.T) {
	for i, d := range rights() {
		if e := disk.Check(d); e != api.OK {
			t.Errorf("right disk %d: error %d", i, e)
		}
	}
	for i, d := range wrongs() {
		if e := disk.Check(d); e != api.ErrForm {
			t.Errorf("wrong disk %d: error %d", i, e)
		}
	}
}

// 4.1: a disk that is not right is answered ahead of all else, and all else is zero.
func TestFormFirst(t *testing.T) {
	for _, w := range wrongs() {
		for _, down := range []bool{false, true} {
			w.Down = down
			for _, name := range []string{"", "a", "none"} {
				d, e := disk.New(w, name, 0)
				isDisk(t, "New", d, e, api.Disk{}, api.ErrForm)
				d, e = disk.Free(w, name, name)
				isDisk(t, "Free", d, e, api.Disk{}, api.ErrForm)
				d, e = disk.Move(w, "none", name)
				isDisk(t, "Move", d, e, api.Disk{}, api.ErrForm)
				d, e = disk.Write(w, name, -1, "")
				isDisk(t, "Write", d, e, api.Disk{}, api.ErrForm)
				s, e := disk.Read(w, name, -1)
				is(t, "Read", s, e, "", api.ErrForm)
				n, e := disk.Sectors(w, name)
				is(t, "Sectors", n, e, 0, api.ErrForm)
			}
			d, e := disk.Free(w)
			isDisk(t, "Free of nothing", d, e, api.Disk{}, api.ErrForm)
			d, e = disk.Sync(w)
			isDisk(t, "Sync", d, e, api.Disk{}, api.ErrForm)
			d, e = disk.Crash(w, true)
			isDisk(t, "Crash", d, e, api.Disk{}, api.ErrForm)
			n, e := disk.Room(w)
			is(t, "Room", n, e, 0, api.ErrForm)
		}
	}
}

// 4.1: where the power is gone, that is answered ahead of what else is wrong, and the disk is as it was.
func TestDown(t *testing.T) {
	for _, fuse := range []int{-1, 0, 5} {
		down := changed(func(d *api.Disk) { d.Down, d.Fuse = true, fuse })
		for _, name := range []string{"", "a", "b", "none", longest, longest + "n"} {
			for _, n := range []int{-1, 0, 1, 2, 3, math.MaxInt} {
				d, e := disk.New(down, name, n)
				isDisk(t, "New", d, e, down, api.ErrPower)
				d, e = disk.Write(down, name, n, all("x"))
				isDisk(t, "Write", d, e, down, api.ErrPower)
				s, e := disk.Read(down, name, n)
				is(t, "Read", s, e, "", api.ErrPower)
			}
			d, e := disk.Free(down, name)
			isDisk(t, "Free", d, e, down, api.ErrPower)
			d, e = disk.Move(down, "a", name)
			isDisk(t, "Move", d, e, down, api.ErrPower)
			d, e = disk.Move(down, name, "")
			isDisk(t, "Move to no name", d, e, down, api.ErrPower)
			n, e := disk.Sectors(down, name)
			is(t, "Sectors", n, e, 0, api.ErrPower)
		}
		d, e := disk.Free(down)
		isDisk(t, "Free of nothing", d, e, down, api.ErrPower)
		d, e = disk.Write(down, "a", 0, "")
		isDisk(t, "Write of no sector", d, e, down, api.ErrPower)
		d, e = disk.Sync(down)
		isDisk(t, "Sync", d, e, down, api.ErrPower)
		n, e := disk.Room(down)
		is(t, "Room", n, e, 0, api.ErrPower)
	}
}

// 4.1
func TestMake(t *testing.T) {
	for _, size := range []int{0, 1, 2, 900, api.MaxSectors - 1, api.MaxSectors} {
		d, e := disk.Make(size)
		isDisk(t, "Make", d, e, api.Disk{Size: size, Fuse: -1}, api.OK)
	}
	for _, size := range []int{-1, math.MinInt, api.MaxSectors + 1, math.MaxInt} {
		d, e := disk.Make(size)
		isDisk(t, "Make out of range", d, e, api.Disk{}, api.ErrRange)
	}
}

// 4.1
func TestRoomAndSectors(t *testing.T) {
	for _, l := range []struct {
		d    api.Disk
		want int
	}{{right(), 2}, {changed(func(d *api.Disk) { d.Size = 7 }), 0}, {full(), 0}, {api.Disk{}, 0}, {api.Disk{Size: 5}, 5}} {
		n, e := disk.Room(l.d)
		is(t, "Room", n, e, l.want, api.OK)
	}
	for name, want := range map[string]int{"a": 3, "b": 1, "c\x00": 2, longest: 1} {
		n, e := disk.Sectors(right(), name)
		is(t, "Sectors of "+name, n, e, want, api.OK)
	}
	for _, name := range []string{"", "A", "aa", "c", "z", longest[1:], longest + "n"} {
		n, e := disk.Sectors(right(), name)
		is(t, "Sectors of none", n, e, 0, api.ErrNone)
	}
}

// 4.2
func TestNew(t *testing.T) {
	for at, name := range []string{"0", "aa", "bb", "d", "o"} {
		for _, many := range []int{1, 2} {
			d, e := disk.New(right(), name, many)
			isDisk(t, "New "+name, d, e, changed(func(d *api.Disk) {
				d.Extents = slices.Insert(d.Extents, at, api.Extent{Name: name, Data: zeros(many)})
			}), api.OK)
		}
	}
	for _, name := range []string{"\x00", "\xff", longest} {
		d, e := disk.New(api.Disk{Size: api.MaxSectors, Fuse: 3}, name, api.MaxSectors)
		isDisk(t, "all sectors", d, e, api.Disk{Size: api.MaxSectors, Extents: []api.Extent{{Name: name, Data: zeros(api.MaxSectors)}}, Fuse: 3}, api.OK)
	}
}

// 4.2: the errors, in the order in which they are told.
func TestNewWrong(t *testing.T) {
	for _, l := range []struct {
		name string
		many int
		want api.Errno
	}{
		{"", 1, api.ErrRange},
		{longest + "n", 1, api.ErrRange},
		{"", 100, api.ErrRange},
		{"d", 0, api.ErrRange},
		{"d", -1, api.ErrRange},
		{"d", math.MinInt, api.ErrRange},
		{"a", 0, api.ErrRange},
		{"a", 1, api.ErrTwice},
		{longest, 1, api.ErrTwice},
		{"a", 3, api.ErrTwice},
		{"a", math.MaxInt, api.ErrTwice},
		{"d", 3, api.ErrFull},
		{"d", api.MaxSectors, api.ErrFull},
		{"d", math.MaxInt, api.ErrFull},
		{"d", math.MaxInt/api.SectorSize + 2, api.ErrFull},
	} {
		d, e := disk.New(right(), l.name, l.many)
		isDisk(t, "New of "+l.name, d, e, right(), l.want)
	}
	d, e := disk.New(api.Disk{}, "a", 1)
	isDisk(t, "New where there is no sector", d, e, api.Disk{}, api.ErrFull)
	d, e = disk.New(full(), "a", 1)
	isDisk(t, "New where all is full", d, e, full(), api.ErrFull)
}

// 4.2
func TestFree(t *testing.T) {
	d, e := disk.Free(right())
	isDisk(t, "Free of nothing", d, e, right(), api.OK)
	d, e = disk.Free(right(), "a")
	isDisk(t, "Free of one", d, e, changed(func(d *api.Disk) {
		d.Extents = d.Extents[1:]
		d.Waits = []api.Write{d.Waits[1], d.Waits[3]}
	}), api.OK)
	d, e = disk.Free(right(), longest, "b")
	isDisk(t, "Free of two", d, e, changed(func(d *api.Disk) {
		d.Extents = []api.Extent{d.Extents[0], d.Extents[2]}
		d.Waits = []api.Write{d.Waits[0], d.Waits[2], d.Waits[3]}
	}), api.OK)
	d, e = disk.Free(right(), "c\x00", "a", longest, "b")
	isDisk(t, "Free of all", d, e, api.Disk{Size: 9, Fuse: -1}, api.OK)
	names := []string{}
	for _, x := range full().Extents {
		names = append(names, x.Name)
	}
	d, e = disk.Free(full(), names...)
	isDisk(t, "Free of all that there may be", d, e, api.Disk{Size: api.MaxSectors, Fuse: -1}, api.OK)
	for _, names := range [][]string{{""}, {"c"}, {longest + "n"}, {"a", "none"}, {"none", "a"}, {"a", "b", "c\x00", longest, "d"}, {"a", "a"}, {"b", "a", "b"}} {
		d, e = disk.Free(right(), names...)
		isDisk(t, "Free of "+strings.Join(names, ", "), d, e, right(), api.ErrNone)
	}
}

// 4.2
func TestMove(t *testing.T) {
	for at, name := range []string{"0", "bb", "d", "o"} {
		d, e := disk.Move(right(), "a", name)
		isDisk(t, "Move to "+name, d, e, changed(func(d *api.Disk) {
			one := d.Extents[0]
			one.Name = name
			d.Extents = slices.Insert(d.Extents[1:], at, one)
			d.Waits[0].Name, d.Waits[2].Name = name, name
		}), api.OK)
	}
	d, e := disk.Move(right(), "c\x00", "a")
	isDisk(t, "Move to one that is there", d, e, changed(func(d *api.Disk) {
		d.Extents = []api.Extent{{Name: "a", Data: d.Extents[2].Data}, d.Extents[1], d.Extents[3]}
		d.Waits = []api.Write{d.Waits[1], {Name: "a", Sector: 1, Data: all("z")}}
	}), api.OK)
	d, e = disk.Move(right(), "a", longest)
	isDisk(t, "Move to one behind it", d, e, changed(func(d *api.Disk) {
		d.Extents[3].Data = d.Extents[0].Data
		d.Extents = d.Extents[1:]
		d.Waits[0].Name, d.Waits[2].Name = longest, longest
	}), api.OK)
	for _, x := range right().Extents {
		d, e = disk.Move(right(), x.Name, x.Name)
		isDisk(t, "Move to itself", d, e, right(), api.OK)
	}
}

// 4.2
func TestMoveWrong(t *testing.T) {
	for _, l := range []struct {
		from, to string
		want     api.Errno
	}{
		{"a", "", api.ErrRange},
		{"a", longest + "n", api.ErrRange},
		{"none", "", api.ErrRange},
		{"", "", api.ErrRange},
		{"", "a", api.ErrNone},
		{"c", "a", api.ErrNone},
		{"d", "d", api.ErrNone},
		{longest + "n", longest, api.ErrNone},
	} {
		d, e := disk.Move(right(), l.from, l.to)
		isDisk(t, "Move of "+l.from+" to "+l.to, d, e, right(), l.want)
	}
}

// 4.2: no crash takes back what was done to extents.
func TestAtOnce(t *testing.T) {
	d, _ := disk.New(right(), "d", 2)
	d, _ = disk.Free(d, "b")
	d, _ = disk.Move(d, "c\x00", "a")
	d, e := disk.Crash(d)
	isDisk(t, "behind a crash", d, e, api.Disk{Size: 9, Extents: []api.Extent{
		{Name: "a", Data: all("5") + all("6")}, {Name: "d", Data: zeros(2)}, {Name: longest, Data: all("7")},
	}, Fuse: -1}, api.OK)
}

// 4.3
func TestRead(t *testing.T) {
	for name, want := range map[string]string{"a": "12y", "b": "x", "c\x00": "5z", longest: "7"} {
		for i := range len(want) {
			sees(t, right(), name, i, all(want[i:i+1]))
		}
		for _, i := range []int{-1, math.MinInt, len(want), len(want) + 1, math.MaxInt, math.MaxInt/api.SectorSize + 2} {
			s, e := disk.Read(right(), name, i)
			is(t, "no such sector", s, e, "", api.ErrRange)
		}
	}
	for _, name := range []string{"", "A", "c", "z", longest + "n"} {
		for _, i := range []int{-1, 0, math.MaxInt} {
			s, e := disk.Read(right(), name, i)
			is(t, "no such extent", s, e, "", api.ErrNone)
		}
	}
}

// 4.3
func TestWrite(t *testing.T) {
	for _, fuse := range []int{-1, 1, 2, math.MaxInt} {
		d, e := disk.Write(changed(func(d *api.Disk) { d.Fuse = fuse }), "a", 1, all("!"))
		isDisk(t, "Write", d, e, changed(func(d *api.Disk) {
			d.Waits = append(d.Waits, api.Write{Name: "a", Sector: 1, Data: all("!")})
			d.Fuse = max(-1, fuse-1)
		}), api.OK)
	}
	d, e := disk.Write(changed(func(d *api.Disk) { d.Fuse = 0 }), "a", 1, all("!"))
	isDisk(t, "Write without power", d, e, changed(func(d *api.Disk) {
		d.Waits = append(d.Waits, api.Write{Name: "a", Sector: 1, Data: all("!")})
		d.Fuse, d.Down = 0, true
	}), api.ErrPower)
	d, e = disk.Crash(d, false, false, false, false, true)
	isDisk(t, "it may be kept all the same", d, e, changed(func(d *api.Disk) {
		d.Extents[0].Data = all("1") + all("!") + all("3")
		d.Waits = nil
	}), api.OK)
}

// 4.3: the errors, in the order in which they are told, and none of them takes of the fuse.
func TestWriteWrong(t *testing.T) {
	for _, l := range []struct {
		name   string
		sector int
		data   string
		want   api.Errno
	}{
		{"", 0, all("x"), api.ErrNone},
		{"none", -1, "", api.ErrNone},
		{longest + "n", 0, all("x"), api.ErrNone},
		{"a", -1, all("x"), api.ErrRange},
		{"a", 3, all("x"), api.ErrRange},
		{"a", 3, "", api.ErrRange},
		{"a", math.MinInt, all("x"), api.ErrRange},
		{"a", math.MaxInt, all("x"), api.ErrRange},
		{"a", 0, "", api.ErrForm},
		{"a", 0, all("x")[1:], api.ErrForm},
		{"a", 0, all("x") + "x", api.ErrForm},
		{"a", 0, zeros(2), api.ErrForm},
	} {
		for _, fuse := range []int{-1, 0, 1} {
			w := changed(func(d *api.Disk) { d.Fuse = fuse })
			d, e := disk.Write(w, l.name, l.sector, l.data)
			isDisk(t, "Write to "+l.name, d, e, w, l.want)
		}
	}
	d, e := disk.Write(manyWaits(api.MaxWaits-1), "b", 0, all("w"))
	isDisk(t, "the last one of MaxWaits", d, e, manyWaits(api.MaxWaits), api.OK)
	for _, fuse := range []int{-1, 0, 1} {
		w := manyWaits(api.MaxWaits)
		w.Fuse = fuse
		d, e = disk.Write(w, "b", 0, all("w"))
		isDisk(t, "one past MaxWaits", d, e, w, api.ErrFull)
		d, e = disk.Write(w, "b", 0, "")
		isDisk(t, "one past MaxWaits, and no sector", d, e, w, api.ErrForm)
		d, e = disk.Write(w, "b", 1, all("w"))
		isDisk(t, "one past MaxWaits, and no such sector", d, e, w, api.ErrRange)
	}
}

// 4.3: a fuse of n has power for n writes.
func TestFuse(t *testing.T) {
	for n := range 5 {
		d := changed(func(d *api.Disk) { d.Fuse = n })
		for i := range n {
			next, e := disk.Write(d, "a", i%3, all("w"))
			if e != api.OK || next.Down || next.Fuse != n-i-1 {
				t.Fatalf("write %d of %d: error %d, a fuse of %d", i, n, e, next.Fuse)
			}
			d = next
		}
		d, e := disk.Sync(d)
		if e != api.OK || d.Fuse != 0 || d.Down {
			t.Fatalf("Sync takes of the fuse, or of the power: error %d", e)
		}
		d, e = disk.Write(d, "a", 0, all("w"))
		if e != api.ErrPower || !d.Down || len(d.Waits) != 1 {
			t.Fatalf("a write past %d: error %d", n, e)
		}
	}
}

// 4.4
func TestSync(t *testing.T) {
	synced := func(d *api.Disk) {
		d.Extents[0].Data = all("1") + all("2") + all("y")
		d.Extents[1].Data = all("x")
		d.Extents[2].Data = all("5") + all("z")
		d.Waits = nil
	}
	d, e := disk.Sync(right())
	isDisk(t, "Sync", d, e, changed(synced), api.OK)
	d, e = disk.Sync(d)
	isDisk(t, "Sync again", d, e, changed(synced), api.OK)
	d, e = disk.Sync(api.Disk{Fuse: 7})
	isDisk(t, "Sync of nothing", d, e, api.Disk{Fuse: 7}, api.OK)
	d, e = disk.Sync(manyWaits(api.MaxWaits))
	isDisk(t, "Sync of MaxWaits", d, e, changed(func(d *api.Disk) {
		d.Extents[1].Data, d.Waits = all("w"), nil
	}), api.OK)
}

// kept tells, bit by bit, what is kept.
func kept(pattern, n int) []bool {
	keep := make([]bool, n)
	for i := range keep {
		keep[i] = pattern>>i&1 == 1
	}
	return keep
}

// 4.4: every pattern of what is kept, up to one longer than there is anything that waits.
func TestCrash(t *testing.T) {
	for n := range 6 {
		for pattern := range 1 << n {
			for _, from := range []api.Disk{right(), changed(func(d *api.Disk) { d.Down, d.Fuse = true, 3 }), changed(func(d *api.Disk) { d.Fuse = 0 })} {
				is := []byte("1234567")
				for i, at := range []int{2, 3, 2, 5} {
					if pattern>>i&1 == 1 {
						is[at] = "wxyz"[i]
					}
				}
				d, e := disk.Crash(from, kept(pattern, n)...)
				isDisk(t, "Crash", d, e, changed(func(d *api.Disk) {
					for i, x := range d.Extents {
						data := ""
						for range len(x.Data) / api.SectorSize {
							data += all(string(is[:1]))
							is = is[1:]
						}
						d.Extents[i].Data = data
					}
					d.Waits = nil
				}), api.OK)
			}
		}
	}
}

// shares tells whether two disks share a list or a text.
func shares(a, b api.Disk) bool {
	texts := map[*byte]int{}
	for _, x := range a.Extents {
		texts[unsafe.StringData(x.Name)]++
		texts[unsafe.StringData(x.Data)]++
	}
	for _, one := range a.Waits {
		texts[unsafe.StringData(one.Name)]++
		texts[unsafe.StringData(one.Data)]++
	}
	for _, x := range b.Extents {
		if texts[unsafe.StringData(x.Name)]+texts[unsafe.StringData(x.Data)] > 0 {
			return true
		}
	}
	for _, one := range b.Waits {
		if texts[unsafe.StringData(one.Name)]+texts[unsafe.StringData(one.Data)] > 0 {
			return true
		}
	}
	return len(a.Extents)*len(b.Extents) > 0 && &a.Extents[0] == &b.Extents[0] || len(a.Waits)*len(b.Waits) > 0 && &a.Waits[0] == &b.Waits[0]
}

// 4.5: what each call, refused or not, answers is its own, and what was handed in is as it was.
func TestNewMemory(t *testing.T) {
	for _, from := range []api.Disk{right(), changed(func(d *api.Disk) { d.Down = true })} {
		data, keep, names := all("!"), []bool{true, false, true}, []string{"a", "b"}
		for what, call := range map[string]func() (api.Disk, api.Errno){
			"New":              func() (api.Disk, api.Errno) { return disk.New(from, "d", 1) },
			"New, refused":     func() (api.Disk, api.Errno) { return disk.New(from, "a", 1) },
			"Free":             func() (api.Disk, api.Errno) { return disk.Free(from, names...) },
			"Free of nothing":  func() (api.Disk, api.Errno) { return disk.Free(from) },
			"Free, refused":    func() (api.Disk, api.Errno) { return disk.Free(from, "a", "none") },
			"Move":             func() (api.Disk, api.Errno) { return disk.Move(from, "a", "b") },
			"Move to itself":   func() (api.Disk, api.Errno) { return disk.Move(from, "a", "a") },
			"Write":            func() (api.Disk, api.Errno) { return disk.Write(from, "a", 0, data) },
			"Write, refused":   func() (api.Disk, api.Errno) { return disk.Write(from, "a", 9, data) },
			"Sync":             func() (api.Disk, api.Errno) { return disk.Sync(from) },
			"Crash":            func() (api.Disk, api.Errno) { return disk.Crash(from, keep...) },
			"Crash, none kept": func() (api.Disk, api.Errno) { return disk.Crash(from) },
		} {
			d, _ := call()
			again, _ := call()
			if shares(d, from) || shares(d, again) || len(d.Waits) > 4 && unsafe.StringData(d.Waits[4].Data) == unsafe.StringData(data) {
				t.Errorf("%s: what is answered is no new memory", what)
			}
			clear(d.Extents)
			clear(d.Waits)
			if next, e := call(); !alike(next, again) || disk.Check(next) != api.OK {
				t.Errorf("%s: what was answered is no new memory: error %d", what, e)
			}
		}
		if !alike(from, changed(func(d *api.Disk) { d.Down = from.Down })) || !slices.Equal(keep, []bool{true, false, true}) || !slices.Equal(names, []string{"a", "b"}) {
			t.Error("what was handed in has changed")
		}
	}
	d := right()
	s, _ := disk.Read(d, "a", 2)
	if unsafe.StringData(s) == unsafe.StringData(d.Waits[2].Data) {
		t.Error("what is read of what waits is no new memory")
	}
	if s, _ = disk.Read(d, "a", 0); unsafe.StringData(s) == unsafe.StringData(d.Extents[0].Data) {
		t.Error("what is read is no new memory")
	}
}

// 4.6
func TestSynced(t *testing.T) {
	d, _ := disk.Write(right(), "a", 0, all("s"))
	d, _ = disk.Sync(d)
	d, _ = disk.Write(d, "a", 1, all("n"))
	d, _ = disk.Write(d, "b", 0, all("m"))
	for pattern := range 8 {
		c, e := disk.Crash(d, kept(pattern, 3)...)
		if e != api.OK {
			t.Fatalf("Crash: error %d", e)
		}
		sees(t, c, "a", 0, all("s"))
		sees(t, c, "a", 2, all("y"))
		sees(t, c, "c\x00", 0, all("5"))
		sees(t, c, "c\x00", 1, all("z"))
		sees(t, c, longest, 0, all("7"))
		c, _ = disk.Crash(c, true, true)
		sees(t, c, "a", 0, all("s"))
	}
}

// 4.7
func TestSeen(t *testing.T) {
	d := right()
	for i, c := range []string{"p", "q", "r", "s"} {
		d, _ = disk.Write(d, "a", i%2, all(c))
		sees(t, d, "a", i%2, all(c))
	}
	sees(t, d, "a", 0, all("r"))
	sees(t, d, "a", 1, all("s"))
	d, _ = disk.Move(d, "a", "d")
	sees(t, d, "d", 0, all("r"))
	d, _ = disk.Sync(d)
	sees(t, d, "d", 0, all("r"))
	sees(t, d, "d", 1, all("s"))
	sees(t, d, "d", 2, all("y"))
	d, _ = disk.Write(d, "d", 0, all("\x00"))
	sees(t, d, "d", 0, all("\x00"))
	d, _ = disk.Free(d, "d")
	d, _ = disk.New(d, "d", 3)
	sees(t, d, "d", 2, all("\x00"))
}

// 4.8
func TestApart(t *testing.T) {
	for _, x := range right().Extents {
		for i := range len(x.Data) / api.SectorSize {
			before := right()
			after, _ := disk.Write(before, x.Name, i, all("!"))
			synced, _ := disk.Sync(after)
			for _, y := range before.Extents {
				for j := range len(y.Data) / api.SectorSize {
					want, _ := disk.Read(before, y.Name, j)
					if y.Name == x.Name && j == i {
						want = all("!")
					}
					sees(t, after, y.Name, j, want)
					sees(t, synced, y.Name, j, want)
				}
			}
		}
	}
}

// P1, P3, P4: whatever is handed in, each call answers the same twice, and leaves no goroutine.
func TestWhatever(t *testing.T) {
	before := runtime.NumGoroutine()
	names := []string{"", "a", "c\x00", longest, longest + "n", strings.Repeat("\xff", 1000)}
	numbers := []int{math.MinInt, -1, 0, 1, 2, 3, api.MaxSectors, math.MaxInt}
	texts := []string{"", "x", all("x"), all("x") + "x", zeros(100)}
	disks := slices.DeleteFunc(append(wrongs(), rights()...), func(d api.Disk) bool { return len(d.Extents)+len(d.Waits) > 1000 })
	for _, from := range disks {
		twice := func(what string, call func() (api.Disk, api.Errno)) {
			d1, e1 := call()
			d2, e2 := call()
			isDisk(t, what+" again", d2, e2, d1, e1)
			if e1 != api.ErrForm && disk.Check(d1) != api.OK {
				t.Errorf("%s: a disk that is not right", what)
			}
		}
		for _, name := range names {
			for _, n := range numbers {
				twice("New", func() (api.Disk, api.Errno) { return disk.New(from, name, n) })
				for _, s := range texts {
					twice("Write", func() (api.Disk, api.Errno) { return disk.Write(from, name, n, s) })
				}
				disk.Read(from, name, n)
			}
			for _, other := range names {
				twice("Move", func() (api.Disk, api.Errno) { return disk.Move(from, name, other) })
				twice("Free", func() (api.Disk, api.Errno) { return disk.Free(from, name, other) })
			}
			disk.Sectors(from, name)
		}
		twice("Sync", func() (api.Disk, api.Errno) { return disk.Sync(from) })
		twice("Crash", func() (api.Disk, api.Errno) { return disk.Crash(from, make([]bool, 100)...) })
	}
	if after := runtime.NumGoroutine(); after > before {
		t.Errorf("%d goroutines, where %d were", after, before)
	}
}
