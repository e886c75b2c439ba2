package flow_test

import (
	"math"
	"math/rand/v2"
	"runtime"
	"slices"
	"strconv"
	"strings"
	"testing"
	"unsafe"

	"wringer/api"
	"wringer/disk"
	"wringer/flow"
	"wringer/recs"
)

// longest is a name of MaxName bytes.
var longest = strings.Repeat("n", api.MaxName)

// all is a sector that has nothing but c.
func all(c string) string { return strings.Repeat(c, api.SectorSize) }

// some makes records, the same at each run.
func some(width, many int) [][]uint64 {
	r := rand.New(rand.NewPCG(uint64(width), uint64(many)))
	l := make([][]uint64, many)
	for i := range l {
		for range width {
			l[i] = append(l[i], r.Uint64()>>(24+r.IntN(40)))
		}
	}
	return l
}

// file is a file of records that is to be on a disk.
type file struct {
	name    string
	width   int
	records [][]uint64
}

// with is a disk with these files, an extent that is no file, and some room.
func with(t *testing.T, room int, files ...file) api.Disk {
	t.Helper()
	size := 2 + room
	for _, f := range files {
		need, _ := recs.Need(f.width, uint64(len(f.records)))
		size += need
	}
	d := api.Disk{Size: size, Extents: []api.Extent{{Name: "raw", Data: all("1") + all("2")}}, Fuse: -1}
	for _, f := range files {
		var e api.Errno
		if d, e = recs.Write(d, f.name, f.width, f.records); e != api.OK {
			t.Fatalf("a disk with %s: error %d", f.name, e)
		}
	}
	return d
}

// busy is a disk with some files, on which writes wait, to one of the files and to what is none.
func busy(t *testing.T) api.Disk {
	t.Helper()
	d := with(t, 60, file{"a", 1, some(1, 30)}, file{"b", 3, some(3, 30)}, file{"c", 1, some(1, 17)}, file{"n", 2, nil}, file{"w", 8, some(8, 9)})
	d, _ = disk.Write(d, "raw", 1, all("w"))
	d, _ = disk.Write(d, "a", 2, all("\x01"))
	d, _ = disk.Write(d, "raw", 0, all("x"))
	d, _ = disk.Write(d, "a", 2, all("\x02"))
	return d
}

// changed is a disk with something done to it by hand.
func changed(d api.Disk, by func(d *api.Disk)) api.Disk {
	d.Extents, d.Waits = slices.Clone(d.Extents), slices.Clone(d.Waits)
	by(&d)
	return d
}

// synced is a disk with all done that waited.
func synced(d api.Disk) api.Disk {
	d, _ = disk.Sync(d)
	return d
}

// records are a file's.
func records(t *testing.T, d api.Disk, name string) [][]uint64 {
	t.Helper()
	d = synced(d)
	width, count, e := recs.Head(d, name)
	if e != api.OK {
		t.Fatalf("%s: error %d", name, e)
	}
	// What is behind the body may be anything.
	at := slices.IndexFunc(d.Extents, func(x api.Extent) bool { return x.Name == name })
	body := d.Extents[at].Data[api.SectorSize:]
	l := make([][]uint64, count)
	for i := range l {
		for range width {
			n := uint64(0)
			for _, b := range []byte(body[:5]) {
				n = n<<8 | uint64(b)
			}
			l[i], body = append(l[i], n), body[5:]
		}
	}
	return l
}

// alike holds two disks against each other; nil and empty lists are alike.
func alike(a, b api.Disk) bool {
	return a.Size == b.Size && a.Fuse == b.Fuse && a.Down == b.Down && slices.Equal(a.Extents, b.Extents) && slices.Equal(a.Waits, b.Waits)
}

// operation is one with its new file's name left open.
type operation func(d api.Disk, budget int, to string) (api.Disk, api.Cost, api.Errno)

func copies(from string) operation {
	return func(d api.Disk, budget int, to string) (api.Disk, api.Cost, api.Errno) {
		return flow.Copy(d, budget, from, to)
	}
}

func numbers(from string) operation {
	return func(d api.Disk, budget int, to string) (api.Disk, api.Cost, api.Errno) {
		return flow.Number(d, budget, from, to)
	}
}

func cols(from string, cols ...int) operation {
	return func(d api.Disk, budget int, to string) (api.Disk, api.Cost, api.Errno) {
		return flow.Cols(d, budget, from, to, cols...)
	}
}

func zips(a, b string) operation {
	return func(d api.Disk, budget int, to string) (api.Disk, api.Cost, api.Errno) {
		return flow.Zip(d, budget, a, b, to)
	}
}

func glues(names ...string) operation {
	return func(d api.Disk, budget int, to string) (api.Disk, api.Cost, api.Errno) {
		return flow.Glue(d, budget, to, names...)
	}
}

// need is how many sectors all these files have together.
func need(d api.Disk, names ...string) int {
	d.Down = false
	many := 0
	for _, name := range names {
		n, _ := disk.Sectors(d, name)
		many += n
	}
	return many
}

// isCheap holds a cost against what it may be at most, of so many sectors.
func isCheap(t *testing.T, what string, c api.Cost, budget, sectors int) {
	t.Helper()
	if c.Reads+c.Writes > uint64(2*sectors+8) || c.Frames < 1 || c.Frames > budget {
		t.Fatalf("%s: a cost of %+v, of a budget of %d and files of %d sectors", what, c, budget, sectors)
	}
}

// isMade has an operation of some files make a file of these records, and nothing else, under any budget.
func isMade(t *testing.T, what string, do operation, d api.Disk, width int, l [][]uint64, from ...string) {
	t.Helper()
	want, e := recs.Write(synced(d), "to", width, l)
	if e != api.OK {
		t.Fatalf("%s: as it should be: error %d", what, e)
	}
	for _, budget := range []int{api.MinBudget, api.MinBudget + 1, 100, api.MaxFrames} {
		got, c, e := do(d, budget, "to")
		if !alike(got, want) || e != api.OK {
			t.Fatalf("%s: error %d; %v\nas it should be:\n%v", what, e, got, want)
		}
		isCheap(t, what, c, budget, need(want, append(from, "to")...))
		if c.Writes < uint64(need(want, "to")) || len(l) > 0 && c.Reads == 0 {
			t.Fatalf("%s: a cost of %+v, where %d sectors have come", what, c, need(want, "to"))
		}
	}
}

// isRefused has an operation tell an error, and the disk as it was: zero, if that is not right.
func isRefused(t *testing.T, what string, do operation, d api.Disk, budget int, to string, want api.Errno) {
	t.Helper()
	was := d
	if disk.Check(d) != api.OK {
		was = api.Disk{}
	}
	got, c, e := do(d, budget, to)
	if !alike(got, was) || c != (api.Cost{}) || e != want {
		t.Fatalf("%s: error %d, not %d; a cost of %+v; %v\nas it was:\n%v", what, e, want, c, got, was)
	}
}

func TestExample(t *testing.T) {
	d := with(t, 9, file{"a", 1, [][]uint64{{7}, {9}}})
	isMade(t, "Number", numbers("a"), d, 2, [][]uint64{{0, 7}, {1, 9}}, "a")
}

// shapes calls back with records of any width, and of as many as matter: none, those that just fill sectors, one more or less.
func shapes(each func(width int, l [][]uint64)) {
	for width := 1; width <= api.MaxWidth; width++ {
		for _, many := range []int{0, 1, 2, 3, 12, 13, 14, 63, 64, 65, 130} {
			each(width, some(width, many))
		}
	}
}

// 7.1, 7.5, 7.6
func TestCopy(t *testing.T) {
	shapes(func(width int, l [][]uint64) {
		isMade(t, "Copy", copies("a"), with(t, 200, file{"a", width, l}), width, l, "a")
	})
	d := busy(t)
	for _, name := range []string{"a", "b", "c", "n", "w"} {
		width, _, _ := recs.Head(d, name)
		isMade(t, "Copy where writes wait", copies(name), d, width, records(t, d, name), name)
	}
	most := [][]uint64{slices.Repeat([]uint64{api.MaxNum - 1}, api.MaxWidth)}
	isMade(t, "the highest numbers", copies(longest), with(t, 9, file{longest, 8, most}), 8, most, longest)
}

// 7.1, 7.5, 7.6
func TestNumber(t *testing.T) {
	shapes(func(width int, l [][]uint64) {
		d := with(t, 300, file{"a", width, l})
		if width == api.MaxWidth {
			isRefused(t, "Number of MaxWidth", numbers("a"), d, api.MinBudget, "to", api.ErrRange)
			isRefused(t, "Number of MaxWidth, and no name", numbers("a"), d, api.MinBudget, "", api.ErrRange)
			isRefused(t, "Number of MaxWidth, and a name that is there", numbers("a"), d, api.MinBudget, "a", api.ErrRange)
			return
		}
		want := [][]uint64{}
		for i, record := range l {
			want = append(want, append([]uint64{uint64(i)}, record...))
		}
		isMade(t, "Number", numbers("a"), d, width+1, want, "a")
	})
}

// picked are some columns of records.
func picked(l [][]uint64, cols []int) [][]uint64 {
	picked := [][]uint64{}
	for _, record := range l {
		one := []uint64{}
		for _, col := range cols {
			one = append(one, record[col])
		}
		picked = append(picked, one)
	}
	return picked
}

// 7.2, 7.5, 7.6
func TestCols(t *testing.T) {
	r := rand.New(rand.NewPCG(7, 2))
	shapes(func(width int, l [][]uint64) {
		d := with(t, 200, file{"a", width, l})
		for _, many := range []int{1, 2, width, api.MaxWidth} {
			columns := make([]int, many)
			for i := range columns {
				columns[i] = r.IntN(width)
			}
			isMade(t, "Cols", cols("a", columns...), d, many, picked(l, columns), "a")
		}
		last := slices.Repeat([]int{width - 1}, api.MaxWidth)
		isMade(t, "Cols: the last one, again and again", cols("a", last...), d, api.MaxWidth, picked(l, last), "a")
	})
	d := with(t, 200, file{"a", 3, some(3, 20)})
	isMade(t, "Cols: the other way round", cols("a", 2, 1, 0), d, 3, picked(some(3, 20), []int{2, 1, 0}), "a")
	for _, columns := range [][]int{
		nil, {}, {3}, {-1}, {0, 1, 3}, {-1, 0}, {math.MinInt}, {math.MaxInt}, {0, 1, 2, 0, 1, 2, 0, -1},
		make([]int, api.MaxWidth+1), make([]int, 1000), {0, 1, 2, 0, 1, 2, 0, 1, 3},
	} {
		isRefused(t, "Cols of none", cols("a", columns...), d, api.MinBudget, "to", api.ErrRange)
		isRefused(t, "Cols of none, and a name that is there", cols("a", columns...), d, api.MinBudget, "a", api.ErrRange)
	}
	for width := 1; width <= api.MaxWidth; width++ {
		d := with(t, 9, file{"a", width, nil})
		isRefused(t, "Cols: one past the last", cols("a", width), d, api.MinBudget, "to", api.ErrRange)
	}
}

// 7.2, 7.5, 7.6
func TestZip(t *testing.T) {
	shapes(func(width int, l [][]uint64) {
		for other := 1; width+other <= api.MaxWidth+1; other++ {
			d := with(t, 200, file{"a", width, l}, file{"b", other, some(other, len(l))})
			if width+other > api.MaxWidth {
				isRefused(t, "Zip: too wide", zips("a", "b"), d, api.MinBudget, "to", api.ErrRange)
				isRefused(t, "Zip: too wide", zips("b", "a"), d, api.MinBudget, "a", api.ErrRange)
				continue
			}
			want := [][]uint64{}
			for i, record := range l {
				want = append(want, slices.Concat(record, some(other, len(l))[i]))
			}
			isMade(t, "Zip", zips("a", "b"), d, width+other, want, "a", "b")
		}
	})
	d := with(t, 60, file{"a", 4, some(4, 31)}, file{"b", 4, some(4, 30)}, file{"c", 1, some(1, 31)}, file{"n", 4, nil}, file{"w", 5, some(5, 30)})
	twice := [][]uint64{}
	for _, record := range some(4, 31) {
		twice = append(twice, slices.Concat(record, record))
	}
	isMade(t, "Zip of a file and itself", zips("a", "a"), d, 8, twice, "a", "a")
	isMade(t, "Zip of no records", zips("n", "n"), d, 8, nil, "n", "n")
	for _, l := range [][2]string{{"a", "b"}, {"b", "a"}, {"b", "c"}, {"c", "b"}, {"a", "n"}, {"n", "a"}} {
		isRefused(t, "Zip: not as many", zips(l[0], l[1]), d, api.MinBudget, "to", api.ErrShort)
		isRefused(t, "Zip: not as many, and a name that is there", zips(l[0], l[1]), d, api.MinBudget, "a", api.ErrShort)
	}
	for _, l := range [][2]string{{"a", "w"}, {"w", "a"}, {"n", "w"}, {"w", "n"}} {
		isRefused(t, "Zip: too wide, and not as many", zips(l[0], l[1]), d, api.MinBudget, "to", api.ErrRange)
	}
}

// 7.3, 7.5, 7.6
func TestGlue(t *testing.T) {
	shapes(func(width int, l [][]uint64) {
		d := with(t, 400, file{"a", width, l}, file{"b", width, some(width, 5)}, file{"n", width, nil})
		for _, names := range [][]string{{"a"}, {"n"}, {"a", "b"}, {"b", "a"}, {"a", "a"}, {"n", "b", "n", "a", "b"}, {"n", "n"}} {
			want := [][]uint64{}
			for _, name := range names {
				want = append(want, records(t, d, name)...)
			}
			isMade(t, "Glue", glues(names...), d, width, want, names...)
		}
	})
	d := busy(t)
	isMade(t, "Glue where writes wait", glues("a", "c", "a"), d, 1, slices.Concat(records(t, d, "a"), records(t, d, "c"), records(t, d, "a")), "a", "c", "a")
	isRefused(t, "Glue of no names", glues(), d, api.MinBudget, "to", api.ErrRange)
	isRefused(t, "Glue of no names, and a name that is there", glues(), d, api.MinBudget, "a", api.ErrRange)
	isRefused(t, "Glue: another width", glues("a", "b"), d, api.MinBudget, "to", api.ErrRange)
	isRefused(t, "Glue: another width, of no records", glues("a", "c", "n"), d, api.MinBudget, "to", api.ErrRange)
	isRefused(t, "Glue: another width, and a name that is there", glues("n", "a"), d, api.MinBudget, "a", api.ErrRange)
}

// 7.3, 7.5: of small files there may be any many, be they alike or not.
func TestGlueMany(t *testing.T) {
	files := []file{}
	for i := range 300 {
		files = append(files, file{"f" + strconv.Itoa(i), 1, some(1, i%4)})
	}
	d := with(t, 100, files...)
	names, want := []string{}, [][]uint64{}
	for _, f := range files {
		names = append(names, f.name)
		want = append(want, f.records...)
	}
	isMade(t, "Glue of many", glues(names...), d, 1, want, names...)
	again := slices.Repeat([]string{"f3", "f0"}, 150)
	isMade(t, "Glue of two, again and again", glues(again...), d, 1, slices.Concat(slices.Repeat([][][]uint64{files[3].records}, 150)...), again...)
}

// 7.3: as many records together as there may be, and one past.
func TestGlueMost(t *testing.T) {
	const half = api.MaxCount / 2
	d := with(t, 5121, file{"a", 1, some(1, half)}, file{"b", 1, some(1, half-1)}, file{"one", 1, some(1, 1)}, file{"n", 1, nil})
	got, c, e := flow.Glue(d, api.MinBudget, "to", "a", "b", "n", "one", "n")
	if e != api.OK {
		t.Fatalf("Glue of MaxCount records: error %d", e)
	}
	isCheap(t, "Glue of MaxCount records", c, api.MinBudget, need(got, "a", "b", "one", "n", "n", "to"))
	_, l, e := recs.Read(got, "to")
	if e != api.OK || !slices.EqualFunc(l, slices.Concat(some(1, half), some(1, half-1), some(1, 1)), slices.Equal[[]uint64]) {
		t.Fatalf("Glue of MaxCount records: error %d, %d records", e, len(l))
	}
	for _, names := range [][]string{{"a", "a", "one"}, {"one", "a", "a"}, {"a", "b", "one", "one"}, {"a", "a", "a"}, {"a", "b", "n", "one", "one", "n"}} {
		isRefused(t, "Glue: one past MaxCount", glues(names...), d, api.MinBudget, "to", api.ErrRange)
		isRefused(t, "Glue: one past MaxCount, and a name that is there", glues(names...), d, api.MinBudget, "a", api.ErrRange)
	}
	isRefused(t, "Glue: MaxCount, and no room", glues("a", "a"), changed(d, func(d *api.Disk) { d.Size-- }), api.MinBudget, "to", api.ErrFull)
}

// made is an operation of the busy disk, and what it makes.
type made struct {
	what    string
	do      operation
	width   int
	records [][]uint64
	from    []string
}

// operations are some of each kind, of the busy disk.
func operations(t *testing.T) []made {
	t.Helper()
	d := busy(t)
	a, b, c := records(t, d, "a"), records(t, d, "b"), records(t, d, "c")
	numbered, zipped := [][]uint64{}, [][]uint64{}
	for i := range a {
		numbered = append(numbered, append([]uint64{uint64(i)}, b[i]...))
		zipped = append(zipped, slices.Concat(a[i], b[i]))
	}
	return []made{
		{"Copy", copies("a"), 1, a, []string{"a"}},
		{"Copy of no records", copies("n"), 2, nil, []string{"n"}},
		{"Copy of MaxWidth", copies("w"), 8, some(8, 9), []string{"w"}},
		{"Number", numbers("b"), 4, numbered, []string{"b"}},
		{"Number of no records", numbers("n"), 3, nil, []string{"n"}},
		{"Cols", cols("b", 2, 0, 2, 1, 2, 2, 2, 0), 8, picked(b, []int{2, 0, 2, 1, 2, 2, 2, 0}), []string{"b"}},
		{"Zip", zips("a", "b"), 4, zipped, []string{"a", "b"}},
		{"Glue", glues("a", "c", "a"), 1, slices.Concat(a, c, a), []string{"a", "c", "a"}},
	}
}

// Chapter 7, words: a disk that is not right comes ahead of one without power, that of a budget that is too small or too great, that of all others.
func TestBudget(t *testing.T) {
	d := busy(t)
	bad := changed(d, func(d *api.Disk) { d.Size, d.Down = 1, true })
	down := changed(d, func(d *api.Disk) { d.Down, d.Fuse = true, 0 })
	wrongs := []operation{copies("none"), copies("raw"), numbers("w"), cols("a"), zips("w", "w"), zips("a", "c"), zips("none", "w"), glues(), glues("a", "none"), glues("a", "b")}
	for _, m := range operations(t) {
		wrongs = append(wrongs, m.do)
	}
	for _, do := range wrongs {
		for _, to := range []string{"to", "", "a", longest + "n"} {
			for _, budget := range []int{api.MinBudget, api.MaxFrames, api.MinBudget - 1, api.MaxFrames + 1, 0} {
				isRefused(t, "a disk that is not right", do, bad, budget, to, api.ErrForm)
				isRefused(t, "a disk without power", do, down, budget, to, api.ErrPower)
			}
			for _, budget := range []int{api.MinBudget - 1, 1, 0, -1, math.MinInt} {
				isRefused(t, "too small a budget", do, d, budget, to, api.ErrBudget)
			}
			for _, budget := range []int{api.MaxFrames + 1, 1 << 20, math.MaxInt} {
				isRefused(t, "too great a budget", do, d, budget, to, api.ErrRange)
			}
		}
	}
}

// turned is a disk with a byte of an extent that is another.
func turned(d api.Disk, name string, at int) api.Disk {
	return changed(d, func(d *api.Disk) {
		i := slices.IndexFunc(d.Extents, func(x api.Extent) bool { return x.Name == name })
		data := []byte(d.Extents[i].Data)
		data[at] ^= 1
		d.Extents[i].Data = string(data)
	})
}

// faults are disks on which the file f has an error of its records, and its number.
func faults(t *testing.T) []struct {
	what string
	d    api.Disk
	want api.Errno
} {
	t.Helper()
	d := with(t, 40, file{"a", 1, some(1, 3)}, file{"f", 1, some(1, 3)}, file{"w", 8, nil})
	gone, _ := disk.Free(d, "f")
	text, _ := recs.WriteText(gone, "f", "xyz")
	empty, _ := recs.WriteText(gone, "f", "")
	raw, _ := disk.New(gone, "f", 2)
	long, _ := disk.New(gone, "f", 3)
	of := func(d api.Disk, name string) *api.Extent {
		return &d.Extents[slices.IndexFunc(d.Extents, func(x api.Extent) bool { return x.Name == name })]
	}
	of(long, "f").Data = of(d, "f").Data + all("\x00")
	waits, _ := disk.Write(d, "f", 0, all("\x00"))
	return []struct {
		what string
		d    api.Disk
		want api.Errno
	}{
		{"no such file", gone, api.ErrNone},
		{"a file of bytes", text, api.ErrCode},
		{"a file of no bytes", empty, api.ErrCode},
		{"no head", raw, api.ErrForm},
		{"no head, once what waits is done", waits, api.ErrForm},
		{"no mark", turned(d, "f", 0), api.ErrForm},
		{"another sum", turned(d, "f", 9), api.ErrSum},
		{"another count", turned(d, "f", 7), api.ErrSum},
		{"another end of the head", turned(d, "f", 63), api.ErrForm},
		{"a sector too many", long, api.ErrForm},
	}
}

// 7.1 to 7.3: the error of a file's records comes ahead of others of the operation's own, and of the new file's.
func TestRecordsWrong(t *testing.T) {
	for _, l := range faults(t) {
		for what, do := range map[string]operation{
			"Copy": copies("f"), "Number": numbers("f"), "Cols": cols("f", 0), "Cols of none": cols("f"), "Cols past the last": cols("f", 7),
			"Zip": zips("f", "a"), "Zip behind": zips("a", "f"), "Zip of both": zips("f", "f"), "Zip, too wide": zips("w", "f"), "Zip, too wide, ahead": zips("f", "w"),
			"Glue": glues("f"), "Glue behind": glues("a", "a", "f"), "Glue, another width": glues("a", "w", "f"), "Glue ahead": glues("f", "none"),
		} {
			for _, to := range []string{"to", "", longest + "n", "a"} {
				isRefused(t, what+" of "+l.what, do, l.d, api.MinBudget, to, l.want)
			}
			isRefused(t, what+" of "+l.what+", and no room", do, changed(l.d, func(d *api.Disk) { d.Size -= 36 }), api.MaxFrames, "to", l.want)
		}
	}
}

// 7.2, 7.3: of several files that are wrong, the first one's error is told.
func TestFirstWrong(t *testing.T) {
	d := with(t, 40, file{"a", 1, some(1, 3)}, file{"s", 1, some(1, 3)})
	d, _ = recs.WriteText(d, "t", "xyz")
	d = turned(d, "s", 9)
	wrongs := []struct {
		name string
		want api.Errno
	}{{"none", api.ErrNone}, {"", api.ErrNone}, {longest + "n", api.ErrNone}, {"raw", api.ErrForm}, {"s", api.ErrSum}, {"t", api.ErrCode}}
	for _, one := range wrongs {
		for _, other := range wrongs {
			isRefused(t, "Zip of two that are wrong", zips(one.name, other.name), d, api.MinBudget, "to", one.want)
			isRefused(t, "Glue of two that are wrong", glues("a", one.name, "a", other.name), d, api.MinBudget, "to", one.want)
		}
	}
}

// Chapter 7, words: what is behind a body is not asked, and is not in the new file.
func TestBehind(t *testing.T) {
	l := some(1, 14)
	d := with(t, 40, file{"a", 1, l}, file{"b", 1, l})
	for at := api.SectorSize + 5*len(l); at < 3*api.SectorSize; at += 7 {
		d = turned(d, "a", at)
	}
	if _, _, e := recs.Read(d, "a"); e != api.ErrCode {
		t.Fatalf("what is behind a body that is not 0: error %d", e)
	}
	isMade(t, "Copy", copies("a"), d, 1, l, "a")
	isMade(t, "Cols", cols("a", 0, 0), d, 2, picked(l, []int{0, 0}), "a")
	isMade(t, "Zip", zips("a", "b"), d, 2, picked(l, []int{0, 0}), "a", "b")
	isMade(t, "Zip behind", zips("b", "a"), d, 2, picked(l, []int{0, 0}), "a", "b")
	isMade(t, "Glue", glues("a", "b", "a"), d, 1, slices.Concat(l, l, l), "a", "b", "a")
}

// Chapter 7, words: the new file's errors, in their order.
func TestNewWrong(t *testing.T) {
	for _, m := range operations(t) {
		d := busy(t)
		room, _ := disk.Room(d)
		sectors, _ := recs.Need(m.width, uint64(len(m.records)))
		just := changed(d, func(d *api.Disk) { d.Size -= room - sectors })
		full := changed(just, func(d *api.Disk) { d.Size-- })
		for _, on := range []api.Disk{d, full} {
			isRefused(t, m.what+": no name", m.do, on, api.MinBudget, "", api.ErrRange)
			isRefused(t, m.what+": a name that is too long", m.do, on, api.MinBudget, longest+"n", api.ErrRange)
			for _, to := range []string{"a", "b", "n", "raw", "w"} {
				isRefused(t, m.what+": a name that is there", m.do, on, api.MinBudget, to, api.ErrTwice)
			}
		}
		isRefused(t, m.what+": no room", m.do, full, api.MinBudget, "to", api.ErrFull)
		isMade(t, m.what+": just as much room", m.do, just, m.width, m.records, m.from...)
	}
}

// Chapter 7, words: however many writes wait, there is room for those of the operation.
func TestWaits(t *testing.T) {
	for _, m := range operations(t) {
		for _, many := range []int{api.MaxWaits, api.MaxWaits - 1} {
			d := changed(busy(t), func(d *api.Disk) {
				more := slices.Repeat([]api.Write{{Name: "raw", Data: all("?")}}, many-len(d.Waits))
				d.Waits = append(more, d.Waits...)
			})
			want, _ := recs.Write(synced(d), "to", m.width, m.records)
			if got, _, e := m.do(d, api.MinBudget, "to"); e != api.OK || !alike(got, want) {
				t.Fatalf("%s where %d wait: error %d", m.what, many, e)
			}
		}
	}
}

// keeps are some of what may be kept of so many writes: none, all, each one alone, all but each, and others.
func keeps(n int) [][]bool {
	l := [][]bool{nil, slices.Repeat([]bool{true}, n)}
	r := rand.New(rand.NewPCG(7, uint64(n)))
	for i := range n {
		one, but, any := make([]bool, n), slices.Repeat([]bool{true}, n), make([]bool, n)
		one[i], but[i] = true, false
		for j := range any {
			any[j] = r.IntN(2) == 0
		}
		l = append(l, one, but, any)
	}
	return l
}

// isCrashed holds what is behind a crash against what may be: the new file is whole, or has no head, or is not there; the others are as they were. It tells whether it is whole.
func isCrashed(t *testing.T, what string, d api.Disk, keep []bool, whole, without api.Disk) bool {
	t.Helper()
	crashed, e := disk.Crash(d, keep...)
	if e != api.OK {
		t.Fatalf("%s: Crash: error %d", what, e)
	}
	if alike(crashed, whole) {
		return true
	}
	_, _, e = recs.Head(crashed, "to")
	if e == api.ErrForm {
		crashed, _ = disk.Free(crashed, "to")
	} else if e != api.ErrNone {
		t.Fatalf("%s: behind the crash: error %d", what, e)
	}
	if !alike(crashed, without) {
		t.Fatalf("%s: behind the crash: %v\nas it should be:\n%v", what, crashed, without)
	}
	return false
}

// Chapter 7, words: wherever the power goes, the error is told beside the disk as it is then, and what it cost so far; behind the crash the new file is whole or has no head.
func TestPower(t *testing.T) {
	for _, m := range operations(t) {
		without := synced(busy(t))
		whole, _ := recs.Write(without, "to", m.width, m.records)
		sectors := need(whole, append(m.from, "to")...)
		wholes, e, last := 0, api.ErrPower, api.Cost{}
		for fuse := 0; e == api.ErrPower; fuse++ {
			var got api.Disk
			var c api.Cost
			from := changed(busy(t), func(d *api.Disk) { d.Fuse = fuse })
			got, c, e = m.do(from, api.MinBudget, "to")
			isCheap(t, m.what, c, api.MinBudget, sectors)
			if c.Reads < last.Reads || c.Writes < last.Writes {
				t.Fatalf("%s: with power for %d writes a cost of %+v, for one less of %+v", m.what, fuse, c, last)
			}
			last = c
			if e == api.OK {
				want := changed(whole, func(d *api.Disk) { d.Fuse = got.Fuse })
				if !alike(got, want) || fuse > 2*sectors+8 {
					t.Fatalf("%s: with power for %d writes: %v\nas it should be:\n%v", m.what, fuse, got, want)
				}
				break
			}
			if e != api.ErrPower || !got.Down || disk.Check(got) != api.OK {
				t.Fatalf("%s: with power for %d writes: error %d, %v", m.what, fuse, e, got)
			}
			for _, keep := range keeps(len(got.Waits)) {
				if isCrashed(t, m.what, got, keep, whole, without) {
					wholes++
				}
			}
		}
		if e != api.OK || wholes == 0 {
			t.Fatalf("%s: error %d; %d times the file was whole behind a crash", m.what, e, wholes)
		}
	}
}

// 7.6: with any power the disk does not hang on the budget.
func TestPowerBudget(t *testing.T) {
	for _, m := range operations(t) {
		for fuse := range 30 {
			d := changed(busy(t), func(d *api.Disk) { d.Fuse = fuse })
			want, _, wantE := m.do(d, api.MinBudget, "to")
			for _, budget := range []int{api.MinBudget + 1, 60, api.MaxFrames} {
				if got, _, e := m.do(d, budget, "to"); e != wantE || !alike(got, want) {
					t.Fatalf("%s with power for %d writes: a budget of %d has error %d, the least one %d", m.what, fuse, budget, e, wantE)
				}
			}
		}
	}
}

// texts are all a disk's, by where they lie; the empty one lies nowhere.
func texts(d api.Disk) map[*byte]int {
	of := map[*byte]int{}
	for _, x := range d.Extents {
		of[unsafe.StringData(x.Name)]++
		of[unsafe.StringData(x.Data)]++
	}
	for _, one := range d.Waits {
		of[unsafe.StringData(one.Name)]++
		of[unsafe.StringData(one.Data)]++
	}
	return of
}

// shares tells whether two disks share a list or a text.
func shares(a, b api.Disk) bool {
	of := texts(a)
	for text := range texts(b) {
		if of[text] > 0 {
			return true
		}
	}
	return len(a.Extents)*len(b.Extents) > 0 && &a.Extents[0] == &b.Extents[0] || len(a.Waits)*len(b.Waits) > 0 && &a.Waits[0] == &b.Waits[0]
}

// 7.4: what each call, refused or not, answers is its own, and what was handed in is as it was.
func TestNewMemory(t *testing.T) {
	all := operations(t)
	all = append(all, made{what: "Copy of none", do: copies("none")}, made{what: "Number of MaxWidth", do: numbers("w")}, made{what: "Cols of none", do: cols("a")}, made{what: "Zip, too wide", do: zips("w", "w")}, made{what: "Glue of no names", do: glues()})
	for _, by := range []func(d *api.Disk){func(*api.Disk) {}, func(d *api.Disk) { d.Fuse = 0 }, func(d *api.Disk) { d.Fuse = 3 }, func(d *api.Disk) { d.Down = true }} {
		for _, m := range all {
			for _, budget := range []int{api.MinBudget, 1} {
				from := changed(busy(t), by)
				got, _, _ := m.do(from, budget, "to")
				again, _, _ := m.do(from, budget, "to")
				if shares(got, from) || shares(got, again) {
					t.Fatalf("%s: what is answered is no new memory", m.what)
				}
				clear(got.Extents)
				clear(got.Waits)
				if next, _, _ := m.do(from, budget, "to"); !alike(next, again) || !alike(from, changed(busy(t), by)) {
					t.Fatalf("%s: what was answered, or handed in, is kept", m.what)
				}
			}
		}
	}
	to, columns, names := strings.Repeat("t", 2), []int{2, 0, 1}, []string{"a", "c"}
	for _, do := range []operation{copies("a"), cols("b", columns...), glues(names...)} {
		if got, _, _ := do(busy(t), api.MinBudget, to); texts(got)[unsafe.StringData(to)] > 0 {
			t.Error("a name that is handed in is kept")
		}
	}
	if !slices.Equal(columns, []int{2, 0, 1}) || !slices.Equal(names, []string{"a", "c"}) {
		t.Error("lists that were handed in have changed")
	}
}

// P1, P3, P4: whatever is handed in, each call answers the same twice, and leaves no goroutine.
func TestWhatever(t *testing.T) {
	before := runtime.NumGoroutine()
	d := busy(t)
	disks := []api.Disk{{}, {Size: -1}, {Size: 3, Fuse: -1}, d, changed(d, func(d *api.Disk) { d.Waits = nil }), changed(d, func(d *api.Disk) { d.Fuse = 2 }), changed(d, func(d *api.Disk) { d.Down = true })}
	r := rand.New(rand.NewPCG(7, 7))
	for range 60 {
		one := turned(d, "a", r.IntN(api.SectorSize+20))
		disks = append(disks, changed(one, func(d *api.Disk) { d.Fuse = r.IntN(9) - 2 }))
	}
	names := []string{"", "a", "b", "n", "raw", "none", longest + "n"}
	for _, d := range disks {
		for range 40 {
			a, b, to := names[r.IntN(len(names))], names[r.IntN(len(names))], names[r.IntN(len(names))]
			budget := []int{-1, 0, api.MinBudget - 1, api.MinBudget, api.MinBudget, 99, api.MaxFrames, api.MaxFrames + 1}[r.IntN(8)]
			for _, do := range []operation{copies(a), numbers(a), cols(a, r.IntN(4)-1, r.IntN(2)), zips(a, b), glues(a, b, a)} {
				one, c, e := do(d, budget, to)
				other, g, f := do(d, budget, to)
				if !alike(one, other) || c != g || e != f {
					t.Fatalf("error %d, and then %d", e, f)
				}
				if e != api.OK && e != api.ErrPower && (c != api.Cost{}) {
					t.Fatalf("error %d beside a cost of %+v", e, c)
				}
			}
		}
	}
	if after := runtime.NumGoroutine(); after > before {
		t.Errorf("%d goroutines, where %d were", after, before)
	}
}
