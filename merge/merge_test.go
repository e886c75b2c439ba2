package merge_test

import (
	"math"
	"math/rand/v2"
	"runtime"
	"slices"
	"strconv"
	"strings"
	"testing"
	"unsafe"

	"wringer/api"
	"wringer/disk"
	"wringer/merge"
	"wringer/recs"
)

// longest is a name of MaxName bytes.
var longest = strings.Repeat("n", api.MaxName)

// all is a sector that has nothing but c.
func all(c string) string { return strings.Repeat(c, api.SectorSize) }

// sorted are records in order.
func sorted(l [][]uint64) [][]uint64 {
	return slices.SortedStableFunc(slices.Values(l), slices.Compare[[]uint64])
}

// some makes records in order, the same at each run; of many there are some that are alike.
func some(seed uint64, width, many int) [][]uint64 {
	r := rand.New(rand.NewPCG(seed, uint64(width<<20+many)))
	l := make([][]uint64, many)
	for i := range l {
		for range width {
			l[i] = append(l[i], r.Uint64()>>(24+r.IntN(40)))
		}
	}
	return sorted(l)
}

// file is a file of records that is to be on a disk.
type file struct {
	name    string
	width   int
	records [][]uint64
}

// with is a disk with these files, an extent that is no file, and some room.
func with(t *testing.T, room int, files ...file) api.Disk {
	t.Helper()
	size := 2 + room
	for _, f := range files {
		need, _ := recs.Need(f.width, uint64(len(f.records)))
		size += need
	}
	d := api.Disk{Size: size, Extents: []api.Extent{{Name: "raw", Data: all("1") + all("2")}}, Fuse: -1}
	for _, f := range files {
		var e api.Errno
		if d, e = recs.Write(d, f.name, f.width, f.records); e != api.OK {
			t.Fatalf("a disk with %s: error %d", f.name, e)
		}
	}
	return d
}

// busy is a disk with some files, all but u sorted, once what waits is done: of the file c that makes it so.
func busy(t *testing.T) api.Disk {
	t.Helper()
	d := with(t, 90, file{"a", 1, some(1, 1, 30)}, file{"b", 1, some(2, 1, 50)}, file{"c", 1, some(3, 1, 17)}, file{"n", 1, nil}, file{"w", 8, some(4, 8, 9)}, file{"u", 1, [][]uint64{{1}, {0}}}, file{"v", 2, some(5, 2, 20)})
	was, _ := disk.Read(d, "c", 2)
	d, _ = disk.Write(d, "raw", 1, all("w"))
	d, _ = disk.Write(d, "c", 2, all("\x00"))
	d, _ = disk.Write(d, "raw", 0, all("x"))
	d, _ = disk.Write(d, "c", 2, was[:20]+strings.Repeat("\xff", 5)+was[25:])
	return d
}

// changed is a disk with something done to it by hand.
func changed(d api.Disk, by func(d *api.Disk)) api.Disk {
	d.Extents, d.Waits = slices.Clone(d.Extents), slices.Clone(d.Waits)
	by(&d)
	return d
}

// synced is a disk with all done that waited.
func synced(d api.Disk) api.Disk {
	d, _ = disk.Sync(d)
	return d
}

// alike holds two disks against each other; nil and empty lists are alike.
func alike(a, b api.Disk) bool {
	return a.Size == b.Size && a.Fuse == b.Fuse && a.Down == b.Down && slices.Equal(a.Extents, b.Extents) && slices.Equal(a.Waits, b.Waits)
}

// records are a file's.
func records(t *testing.T, d api.Disk, name string) (int, [][]uint64) {
	t.Helper()
	d = synced(d)
	width, count, e := recs.Head(d, name)
	if e != api.OK {
		t.Fatalf("%s: error %d", name, e)
	}
	// What is behind the body may be anything.
	at := slices.IndexFunc(d.Extents, func(x api.Extent) bool { return x.Name == name })
	body := d.Extents[at].Data[api.SectorSize:]
	l := make([][]uint64, count)
	for i := range l {
		for range width {
			n := uint64(0)
			for _, b := range []byte(body[:5]) {
				n = n<<8 | uint64(b)
			}
			l[i], body = append(l[i], n), body[5:]
		}
	}
	return width, l
}

// isCheap holds a cost against what it may be at most, of these files, each counted once, however often it is named.
func isCheap(t *testing.T, what string, c api.Cost, budget int, d api.Disk, names ...string) {
	t.Helper()
	files := slices.Compact(slices.Sorted(slices.Values(names)))
	most := 8 * len(files)
	for _, name := range files {
		sectors, _ := disk.Sectors(d, name)
		most += 2 * sectors
	}
	if c.Reads+c.Writes > uint64(most) || c.Frames < 1 || c.Frames > budget {
		t.Fatalf("%s: a cost of %+v, of a budget of %d, and at most %d", what, c, budget, most)
	}
}

// isMerged has files be merged, and nothing else.
func isMerged(t *testing.T, what string, d api.Disk, budget int, names ...string) {
	t.Helper()
	width, l := 0, [][]uint64{}
	for _, name := range names {
		var more [][]uint64
		width, more = records(t, d, name)
		l = append(l, more...)
	}
	want, e := recs.Write(synced(d), "to", width, sorted(l))
	if e != api.OK {
		t.Fatalf("%s: as it should be: error %d", what, e)
	}
	got, c, e := merge.Merge(d, budget, "to", names...)
	if !alike(got, want) || e != api.OK {
		t.Fatalf("%s: error %d; %v\nas it should be:\n%v", what, e, got, want)
	}
	isCheap(t, what, c, budget, want, slices.Concat(names, []string{"to"})...)
	if sectors, _ := disk.Sectors(want, "to"); c.Writes < uint64(sectors) || c.Reads == 0 {
		t.Fatalf("%s: a cost of %+v, where %d sectors have come", what, c, sectors)
	}
}

// isRefused has a merge tell an error, and the disk as it was: zero, if that is not right.
func isRefused(t *testing.T, what string, d api.Disk, budget int, to string, want api.Errno, names ...string) {
	t.Helper()
	was := d
	if disk.Check(d) != api.OK {
		was = api.Disk{}
	}
	got, c, e := merge.Merge(d, budget, to, names...)
	if !alike(got, was) || c != (api.Cost{}) || e != want {
		t.Fatalf("%s: error %d, not %d; a cost of %+v; %v\nas it was:\n%v", what, e, want, c, got, was)
	}
}

// isSorted holds what Sorted tells of a file against what it should.
func isSorted(t *testing.T, what string, d api.Disk, budget int, name string, place uint64, is bool) {
	t.Helper()
	got, gotIs, c, e := merge.Sorted(d, budget, name)
	if got != place || gotIs != is || e != api.OK {
		t.Fatalf("%s: %d, %v, where it should be %d, %v; error %d", what, got, gotIs, place, is, e)
	}
	isCheap(t, what, c, budget, d, name)
	if c.Reads == 0 || c.Writes != 0 {
		t.Fatalf("%s: a cost of %+v", what, c)
	}
}

// isNotAsked has Sorted tell an error, and nothing beside it.
func isNotAsked(t *testing.T, what string, d api.Disk, budget int, name string, want api.Errno) {
	t.Helper()
	place, is, c, e := merge.Sorted(d, budget, name)
	if place != 0 || is || c != (api.Cost{}) || e != want {
		t.Fatalf("%s: error %d, not %d; %d, %v, a cost of %+v", what, e, want, place, is, c)
	}
}

func TestExample(t *testing.T) {
	d := with(t, 9, file{"a", 1, [][]uint64{{1}, {5}}}, file{"b", 1, [][]uint64{{2}, {5}}})
	isMerged(t, "Merge", d, api.MinBudget, "a", "b")
	d, _, _ = merge.Merge(d, api.MinBudget, "to", "a", "b")
	if _, l := records(t, d, "to"); !slices.EqualFunc(l, [][]uint64{{1}, {2}, {5}, {5}}, slices.Equal[[]uint64]) {
		t.Errorf("Merge: %v", l)
	}
}

// wrongBudgets are budgets that are wrong, and what is told of them.
var wrongBudgets = []struct {
	budget int
	want   api.Errno
}{
	{api.MinBudget - 1, api.ErrBudget}, {7, api.ErrBudget}, {6, api.ErrBudget}, {1, api.ErrBudget}, {0, api.ErrBudget}, {-1, api.ErrBudget}, {math.MinInt, api.ErrBudget},
	{api.MaxFrames + 1, api.ErrRange}, {1 << 20, api.ErrRange}, {math.MaxInt, api.ErrRange},
}

// 10.1
func TestFan(t *testing.T) {
	for budget := api.MinBudget; budget <= api.MaxFrames; budget++ {
		if fan, e := merge.Fan(budget); fan != budget-6 || e != api.OK {
			t.Errorf("Fan(%d): %d, error %d", budget, fan, e)
		}
	}
	for _, l := range wrongBudgets {
		if fan, e := merge.Fan(l.budget); fan != 0 || e != l.want {
			t.Errorf("Fan(%d): %d, error %d", l.budget, fan, e)
		}
	}
}

// passes tells how often so many files are merged, one file made of as many as there may be behind the other.
func passes(fan, files int) int {
	many := 0
	for left := files; left > 1; many++ {
		next := 0
		for ; left > 0; left -= min(left, fan) {
			next++
		}
		left = next
	}
	return many
}

// 10.1
func TestPasses(t *testing.T) {
	for _, budget := range []int{api.MinBudget, api.MinBudget + 1, 100, api.MaxFrames} {
		for files := 0; files < 6000; files++ {
			if many, e := merge.Passes(budget, files); many != passes(budget-6, files) || e != api.OK {
				t.Fatalf("Passes(%d, %d): %d, error %d", budget, files, many, e)
			}
		}
	}
	for _, l := range []struct{ budget, files, want int }{
		{24, 0, 0}, {24, 1, 0}, {24, 2, 1}, {24, 18, 1}, {24, 19, 2}, {24, 324, 2}, {24, 325, 3}, {24, 5832, 3}, {24, 5833, 4},
		{24, api.MaxCount, 4}, {256, 250, 1}, {256, 251, 2}, {256, 62500, 2}, {256, 62501, 3}, {256, api.MaxCount, 3},
	} {
		if many, e := merge.Passes(l.budget, l.files); many != l.want || e != api.OK {
			t.Errorf("Passes(%d, %d): %d, error %d", l.budget, l.files, many, e)
		}
	}
	for _, files := range []int{-1, math.MinInt, api.MaxCount + 1, math.MaxInt} {
		if many, e := merge.Passes(api.MinBudget, files); many != 0 || e != api.ErrRange {
			t.Errorf("Passes of %d files: %d, error %d", files, many, e)
		}
	}
	for _, l := range wrongBudgets {
		for _, files := range []int{-1, 0, 1, 18, api.MaxCount, api.MaxCount + 1} {
			if many, e := merge.Passes(l.budget, files); many != 0 || e != l.want {
				t.Errorf("Passes(%d, %d): %d, error %d", l.budget, files, many, e)
			}
		}
	}
}

// 10.2, 10.5, 10.6: records of any width, and of as many as matter: none, those that just fill sectors, one more or less.
func TestMerge(t *testing.T) {
	for width := 1; width <= api.MaxWidth; width++ {
		for _, many := range []int{0, 1, 2, 12, 13, 14, 63, 64, 65, 130} {
			d := with(t, 600, file{"a", width, some(1, width, many)}, file{"b", width, some(2, width, 40)}, file{"c", width, some(3, width, 1)}, file{"n", width, nil})
			for _, names := range [][]string{{"a"}, {"n"}, {"a", "b"}, {"b", "a"}, {"a", "a"}, {"n", "a", "c", "b"}, {"a", "n"}, {"n", "n"}, {"b", "c", "b", "a", "c"}} {
				isMerged(t, "Merge of "+strings.Join(names, ", "), d, api.MinBudget, names...)
			}
			isMerged(t, "Merge under the greatest budget", d, api.MaxFrames, "a", "b", "c")
		}
	}
}

// 10.2, 10.5: whatever order the records of several files have, be they alike or not.
func TestMergeOrders(t *testing.T) {
	const most = api.MaxNum - 1
	for what, files := range map[string][][][]uint64{
		"one behind the other": {{{1}, {2}, {3}}, {{3}, {4}}, {{5}, {5}}},
		"the last one first":   {{{9}, {9}}, {{8}}, {{1}, {7}}},
		"one by one":           {{{1}, {4}, {7}}, {{2}, {5}, {8}}, {{3}, {6}, {9}}},
		"all the same":         {slices.Repeat([][]uint64{{7}}, 40), slices.Repeat([][]uint64{{7}}, 30), slices.Repeat([][]uint64{{7}}, 50)},
		"the highest":          {{{0}, {most}}, {{most}}, {{0}, {0}, {most}, {most}}},
		"one in the other":     {{{1}, {100}}, some(1, 1, 0), {{50}, {51}, {52}}},
		"several numbers":      {{{1, 2, 3}, {1, 2, 5}, {2, 0, 0}}, {{1, 2, 4}, {1, 3, 0}}, {{1, 2, 3}, {1, 2, 3}, {1, 2, 6}}},
	} {
		width := len(files[0][0])
		d := with(t, 60, file{"a", width, files[0]}, file{"b", width, files[1]}, file{"c", width, files[2]})
		for _, names := range [][]string{{"a", "b", "c"}, {"c", "b", "a"}, {"b", "b", "c"}, {"a"}} {
			isMerged(t, "Merge of records "+what, d, api.MinBudget, names...)
		}
	}
}

// 10.2, 10.5, 10.6: as many files as the fan-in, and one more, be they alike or not.
func TestMergeMany(t *testing.T) {
	for _, budget := range []int{api.MinBudget, api.MinBudget + 1, api.MaxFrames} {
		fan := budget - 6
		files, names := []file{}, []string{}
		for i := range fan + 1 {
			name := "f" + strconv.Itoa(i)
			files = append(files, file{name, 1, some(uint64(i), 1, i*7%30)})
			names = append(names, name)
		}
		d := with(t, 700, files...)
		isMerged(t, "Merge of as many as the fan-in", d, budget, names[:fan]...)
		isMerged(t, "Merge of one less", d, budget, names[1:fan]...)
		isMerged(t, "Merge of the other ones", d, budget, names[1:]...)
		isMerged(t, "Merge of one, again and again", d, budget, slices.Repeat(names[4:5], fan)...)
		isMerged(t, "Merge of two, again and again", d, budget, slices.Repeat([]string{"f3", "f1"}, fan/2)...)
		isRefused(t, "Merge of one more than the fan-in", d, budget, "to", api.ErrRange, names...)
		isRefused(t, "Merge of one, once more than the fan-in", d, budget, "to", api.ErrRange, slices.Repeat(names[4:5], fan+1)...)
		isRefused(t, "Merge of many more", d, budget, "to", api.ErrRange, slices.Repeat(names, 5)...)
	}
}

// 10.2: no files, and more than the fan-in, come ahead of all that is wrong with them, and of the new file's errors.
func TestNamesWrong(t *testing.T) {
	d := busy(t)
	room, _ := disk.Room(d)
	for _, d := range []api.Disk{d, changed(d, func(d *api.Disk) { d.Size -= room })} {
		for _, to := range []string{"to", "a", "", longest + "n"} {
			isRefused(t, "Merge of no files", d, api.MinBudget, to, api.ErrRange)
			isRefused(t, "Merge of no files", d, api.MaxFrames, to, api.ErrRange, []string{}...)
			isRefused(t, "too many that are none", d, api.MinBudget, to, api.ErrRange, slices.Repeat([]string{"none"}, 19)...)
			isRefused(t, "too many that are no files", d, api.MaxFrames, to, api.ErrRange, slices.Repeat([]string{"raw"}, 251)...)
			isRefused(t, "too many that are not sorted", d, api.MinBudget, to, api.ErrRange, slices.Repeat([]string{"u"}, 19)...)
		}
	}
}

// 10.2, chapter 7, words: where writes wait, what is seen is merged, and all that waits is synced.
func TestMergeBusy(t *testing.T) {
	d := busy(t)
	for _, names := range [][]string{{"a", "b", "c"}, {"c"}, {"n"}, {"n", "n", "a"}, {"w"}, {"w", "w"}, {"v", "v"}} {
		isMerged(t, "Merge where writes wait", d, api.MinBudget, names...)
		isMerged(t, "Merge where writes wait", d, 77, names...)
		for _, many := range []int{api.MaxWaits, api.MaxWaits - 1} {
			full := changed(d, func(d *api.Disk) {
				more := slices.Repeat([]api.Write{{Name: "raw", Data: all("?")}}, many-len(d.Waits))
				d.Waits = append(more, d.Waits...)
			})
			isMerged(t, "Merge where as many wait as may", full, api.MinBudget, names...)
		}
	}
}

// 10.2: as many records together as there may be, and one past.
func TestMergeMost(t *testing.T) {
	const third = api.MaxCount / 3
	d := with(t, 5121, file{"a", 1, some(1, 1, third)}, file{"b", 1, some(2, 1, third)}, file{"c", 1, some(3, 1, third)}, file{"one", 1, some(4, 1, 1)}, file{"n", 1, nil})
	isMerged(t, "Merge of MaxCount records", d, api.MinBudget, "a", "n", "b", "one", "c")
	for _, names := range [][]string{{"a", "one", "one", "b", "c"}, {"a", "b", "a", "b"}, {"one", "a", "a", "n", "a", "one"}, slices.Repeat([]string{"a"}, 18)} {
		isRefused(t, "Merge: one past MaxCount", d, api.MinBudget, "to", api.ErrRange, names...)
		isRefused(t, "Merge: one past MaxCount, and a name that is there", d, api.MinBudget, "a", api.ErrRange, names...)
	}
	isRefused(t, "Merge: MaxCount, and no room", changed(d, func(d *api.Disk) { d.Size-- }), api.MinBudget, "to", api.ErrFull, "a", "b", "one", "c")
}

// 10.2, 10.3: a disk that is not right comes ahead of one without power, that of a budget, and that of all others.
func TestBudget(t *testing.T) {
	d := busy(t)
	bad := changed(d, func(d *api.Disk) { d.Size, d.Down = 1, true })
	down := changed(d, func(d *api.Disk) { d.Down, d.Fuse = true, 0 })
	for _, names := range [][]string{{"a", "b"}, {}, {"none"}, {"u"}, {"a", "w"}, slices.Repeat([]string{"a"}, 300)} {
		name := strings.Join(names, "")
		for _, to := range []string{"to", "", "a"} {
			for _, budget := range []int{api.MinBudget, api.MaxFrames, api.MinBudget - 1, api.MaxFrames + 1, 0} {
				isRefused(t, "a disk that is not right", bad, budget, to, api.ErrForm, names...)
				isRefused(t, "a disk without power", down, budget, to, api.ErrPower, names...)
				isNotAsked(t, "a disk that is not right", bad, budget, name, api.ErrForm)
				isNotAsked(t, "a disk without power", down, budget, name, api.ErrPower)
			}
			for _, l := range wrongBudgets {
				isRefused(t, "a budget that is wrong", d, l.budget, to, l.want, names...)
				isNotAsked(t, "a budget that is wrong", d, l.budget, name, l.want)
			}
		}
	}
}

// turned is a disk with a byte of an extent that is another.
func turned(d api.Disk, name string, at int) api.Disk {
	return changed(d, func(d *api.Disk) {
		i := slices.IndexFunc(d.Extents, func(x api.Extent) bool { return x.Name == name })
		data := []byte(d.Extents[i].Data)
		data[at] ^= 1
		d.Extents[i].Data = string(data)
	})
}

// full is a disk without room.
func full(d api.Disk) api.Disk {
	return changed(d, func(d *api.Disk) {
		d.Size = 0
		for _, x := range d.Extents {
			d.Size += len(x.Data) / api.SectorSize
		}
	})
}

// 10.2, 10.3: the error of a file's records comes ahead of another width, of too many records, of the new file's errors, and of a file that is not sorted.
func TestRecordsWrong(t *testing.T) {
	d := with(t, 40, file{"a", 1, some(1, 1, 3)}, file{"f", 1, some(1, 1, 3)}, file{"u", 1, [][]uint64{{2}, {1}}}, file{"w", 8, nil})
	gone, _ := disk.Free(d, "f")
	text, _ := recs.WriteText(gone, "f", "xyz")
	empty, _ := recs.WriteText(gone, "f", "")
	raw, _ := disk.New(gone, "f", 2)
	waits, _ := disk.Write(d, "f", 0, all("\x00"))
	long := changed(d, func(d *api.Disk) { d.Extents[1].Data += all("\x00") })
	for _, l := range []struct {
		what string
		d    api.Disk
		want api.Errno
	}{
		{"no such file", gone, api.ErrNone},
		{"a file of bytes", text, api.ErrCode},
		{"a file of no bytes", empty, api.ErrCode},
		{"no head", raw, api.ErrForm},
		{"no head, once what waits is done", waits, api.ErrForm},
		{"no mark", turned(d, "f", 0), api.ErrForm},
		{"another sum", turned(d, "f", 9), api.ErrSum},
		{"another count", turned(d, "f", 7), api.ErrSum},
		{"another end of the head", turned(d, "f", 63), api.ErrForm},
		{"a sector too many", long, api.ErrForm},
	} {
		for _, to := range []string{"to", "", longest + "n", "a"} {
			for _, names := range [][]string{{"f"}, {"a", "f"}, {"f", "a"}, {"w", "a", "f"}, {"u", "f", "f"}, {"a", "a", "f", "none"}} {
				isRefused(t, l.what, l.d, api.MinBudget, to, l.want, names...)
				isRefused(t, l.what+", and no room", full(l.d), api.MaxFrames, to, l.want, names...)
			}
		}
		isNotAsked(t, l.what, l.d, api.MinBudget, "f", l.want)
		isNotAsked(t, l.what, l.d, api.MaxFrames, "f", l.want)
	}
}

// 10.2: of several files that are wrong, the first one's error is told.
func TestFirstWrong(t *testing.T) {
	d := with(t, 40, file{"a", 1, some(1, 1, 3)}, file{"s", 1, some(1, 1, 3)})
	d, _ = recs.WriteText(d, "t", "xyz")
	d = turned(d, "s", 9)
	wrongs := []struct {
		name string
		want api.Errno
	}{{"none", api.ErrNone}, {"", api.ErrNone}, {longest + "n", api.ErrNone}, {"raw", api.ErrForm}, {"s", api.ErrSum}, {"t", api.ErrCode}}
	for _, one := range wrongs {
		isNotAsked(t, "a file that is wrong", d, api.MinBudget, one.name, one.want)
		for _, other := range wrongs {
			isRefused(t, "Merge of two that are wrong", d, api.MinBudget, "to", one.want, "a", one.name, "a", other.name)
		}
	}
}

// 10.2: another width than the first one's comes ahead of the new file's errors, and of a file that is not sorted.
func TestWidthWrong(t *testing.T) {
	d := busy(t)
	for _, names := range [][]string{{"a", "w"}, {"w", "a"}, {"n", "v"}, {"v", "n"}, {"a", "b", "c", "v"}, {"u", "v"}, {"v", "v", "u"}} {
		for _, to := range []string{"to", "", longest + "n", "a", "raw"} {
			isRefused(t, "Merge: another width", d, api.MinBudget, to, api.ErrRange, names...)
			isRefused(t, "Merge: another width, and no room", full(d), api.MinBudget, to, api.ErrRange, names...)
		}
	}
}

// 10.2: the new file's errors, in their order, come ahead of a file that is not sorted.
func TestNewWrong(t *testing.T) {
	d := busy(t)
	room, _ := disk.Room(d)
	for _, names := range [][]string{{"a", "b", "c"}, {"n"}, {"w"}, {"u"}, {"a", "u"}} {
		for _, d := range []api.Disk{d, full(d)} {
			isRefused(t, "no name", d, api.MinBudget, "", api.ErrRange, names...)
			isRefused(t, "a name that is too long", d, api.MinBudget, longest+"n", api.ErrRange, names...)
			for _, to := range []string{"a", "b", "n", "raw", "w", "u"} {
				isRefused(t, "a name that is there", d, api.MinBudget, to, api.ErrTwice, names...)
			}
		}
		isRefused(t, "no room", full(d), api.MinBudget, "to", api.ErrFull, names...)
		width, many := 0, 0
		for _, name := range names {
			one, l := records(t, d, name)
			width, many = one, many+len(l)
		}
		sectors, _ := recs.Need(width, uint64(many))
		just := changed(d, func(d *api.Disk) { d.Size -= room - sectors })
		isRefused(t, "a sector too few", changed(just, func(d *api.Disk) { d.Size-- }), api.MinBudget, "to", api.ErrFull, names...)
		if !slices.Contains(names, "u") {
			isMerged(t, "just as much room", just, api.MinBudget, names...)
		}
	}
}

// faulty are records of a width, in order but for those from place on.
func faulty(width, many, place int) [][]uint64 {
	l := [][]uint64{}
	for i := range uint64(many) {
		l = append(l, append(make([]uint64, width-1), i/3+5))
	}
	for i := place; i < many; i++ {
		l[i][width-1] = 1
	}
	return l
}

// 10.2, 10.3: wherever it is that a file is not sorted.
func TestOrderWrong(t *testing.T) {
	for _, width := range []int{1, 3, api.MaxWidth} {
		for _, many := range []int{2, 13, 14, 60} {
			for place := 1; place < many; place++ {
				d := with(t, 150, file{"f", width, faulty(width, many, place)}, file{"a", width, some(1, width, 20)}, file{"n", width, nil})
				isSorted(t, "Sorted", d, api.MinBudget, "f", uint64(place), false)
				for _, names := range [][]string{{"f"}, {"f", "a"}, {"a", "n", "f"}, {"a", "f", "f", "a"}} {
					isRefused(t, "Merge of a file that is not sorted", d, api.MinBudget, "to", api.ErrOrder, names...)
				}
			}
		}
	}
	d := with(t, 40, file{"f", 2, [][]uint64{{1, 1}, {1, 1}, {1, 2}, {2, 0}, {1, 9}, {0, 0}}}, file{"g", 8, [][]uint64{{7, 7, 7, 7, 7, 7, 7, 7}, {7, 7, 7, 7, 7, 7, 7, 6}}})
	isSorted(t, "Sorted: less by its first number, though not by its second", d, api.MinBudget, "f", 4, false)
	isSorted(t, "Sorted: less by its last number alone", d, api.MinBudget, "g", 1, false)
	isRefused(t, "Merge", d, api.MaxFrames, "to", api.ErrOrder, "f", "f")
	isRefused(t, "Merge", d, api.MaxFrames, "to", api.ErrOrder, "g")
}

// 10.2, chapter 7, words: a file that is not sorted is told ahead of all that is done: however much power there is, however many writes wait, the disk is as it was.
func TestOrderPower(t *testing.T) {
	late := with(t, 60, file{"a", 1, some(1, 1, 30)}, file{"n", 1, nil}, file{"u", 1, faulty(1, 200, 199)})
	late, _ = disk.Write(late, "raw", 1, all("w"))
	for fuse := range 30 {
		for _, d := range []api.Disk{busy(t), late} {
			d = changed(d, func(d *api.Disk) { d.Fuse = fuse })
			isRefused(t, "Merge of a file that is not sorted", d, api.MinBudget, "to", api.ErrOrder, "a", "n", "u")
			isRefused(t, "Merge of a file that is not sorted", d, api.MaxFrames, "to", api.ErrOrder, "u", "n")
		}
		d := changed(busy(t), func(d *api.Disk) { d.Fuse = fuse })
		isSorted(t, "Sorted", d, api.MinBudget, "u", 1, false)
		isSorted(t, "Sorted", d, api.MinBudget, "b", 50, true)
	}
}

// 10.3: files that are sorted, of all widths, and of as many records as matter.
func TestSorted(t *testing.T) {
	for width := 1; width <= api.MaxWidth; width++ {
		for _, many := range []int{0, 1, 2, 12, 13, 14, 63, 64, 65, 130} {
			same := slices.Repeat([][]uint64{slices.Repeat([]uint64{api.MaxNum - 1}, width)}, many)
			d := with(t, 0, file{"a", width, some(1, width, many)}, file{longest, width, same})
			for _, budget := range []int{api.MinBudget, api.MaxFrames} {
				isSorted(t, "Sorted", d, budget, "a", uint64(many), true)
				isSorted(t, "Sorted where all records are the same", d, budget, longest, uint64(many), true)
			}
		}
	}
	d := with(t, 0, file{"a", 1, some(1, 1, api.MaxCount)})
	isSorted(t, "Sorted of MaxCount records", d, api.MinBudget, "a", api.MaxCount, true)
}

// 10.3: what is seen is asked: what waits makes a file be sorted, or not.
func TestSortedBusy(t *testing.T) {
	d := busy(t)
	for _, many := range []int{len(d.Waits), api.MaxWaits} {
		d := changed(d, func(d *api.Disk) {
			more := slices.Repeat([]api.Write{{Name: "raw", Data: all("?")}}, many-len(d.Waits))
			d.Waits = append(more, d.Waits...)
		})
		was := changed(d, func(*api.Disk) {})
		isSorted(t, "Sorted of what waits", d, api.MinBudget, "c", 17, true)
		isSorted(t, "Sorted where the last write is not there", changed(d, func(d *api.Disk) { d.Waits = d.Waits[:len(d.Waits)-1] }), api.MinBudget, "c", 13, false)
		if !alike(d, was) {
			t.Fatal("Sorted has changed the disk")
		}
	}
}

// 10.2, 10.3, chapter 7, words: what is behind a body is not asked, and is not in the new file.
func TestBehind(t *testing.T) {
	d := with(t, 40, file{"a", 1, some(1, 1, 14)}, file{"b", 1, some(2, 1, 14)})
	for at := api.SectorSize + 5*14; at < 3*api.SectorSize; at += 7 {
		d = turned(d, "a", at)
	}
	if _, _, e := recs.Read(d, "a"); e != api.ErrCode {
		t.Fatalf("what is behind a body that is not 0: error %d", e)
	}
	isMerged(t, "Merge", d, api.MinBudget, "a", "b", "a")
	isSorted(t, "Sorted", d, api.MinBudget, "a", 14, true)
}

// keeps are some of what may be kept of so many writes: none, all, each one alone, all but each, and others.
func keeps(n int) [][]bool {
	l := [][]bool{nil, slices.Repeat([]bool{true}, n)}
	r := rand.New(rand.NewPCG(10, uint64(n)))
	for i := range n {
		one, but, any := make([]bool, n), slices.Repeat([]bool{true}, n), make([]bool, n)
		one[i], but[i] = true, false
		for j := range any {
			any[j] = r.IntN(2) == 0
		}
		l = append(l, one, but, any)
	}
	return l
}

// isCrashed holds what is behind a crash against what may be: the new file is whole, or has no head, or is not there; the others are as they were. It tells whether it is whole.
func isCrashed(t *testing.T, d api.Disk, keep []bool, whole, without api.Disk) bool {
	t.Helper()
	crashed, e := disk.Crash(d, keep...)
	if e != api.OK {
		t.Fatalf("Crash: error %d", e)
	}
	if alike(crashed, whole) {
		return true
	}
	_, _, e = recs.Head(crashed, "to")
	if e == api.ErrForm {
		crashed, _ = disk.Free(crashed, "to")
	} else if e != api.ErrNone {
		t.Fatalf("behind the crash: error %d", e)
	}
	if !alike(crashed, without) {
		t.Fatalf("behind the crash: %v\nas it should be:\n%v", crashed, without)
	}
	return false
}

// 10.2, chapter 7, words: wherever the power goes, the error is told beside the disk as it is then, and what it cost so far; behind the crash the new file is whole or has no head.
func TestPower(t *testing.T) {
	for _, names := range [][]string{{"a", "b", "c", "n"}, {"b", "b"}, {"w"}, {"n"}} {
		without := synced(busy(t))
		whole, _, _ := merge.Merge(busy(t), api.MinBudget, "to", names...)
		sectors, _ := disk.Sectors(whole, "to")
		wholes, e, last := 0, api.ErrPower, api.Cost{}
		for fuse := 0; e == api.ErrPower; fuse++ {
			var got api.Disk
			var c api.Cost
			from := changed(busy(t), func(d *api.Disk) { d.Fuse = fuse })
			got, c, e = merge.Merge(from, api.MinBudget, "to", names...)
			isCheap(t, "Merge without power", c, api.MinBudget, whole, slices.Concat(names, []string{"to"})...)
			if c.Reads < last.Reads || c.Writes < last.Writes {
				t.Fatalf("with power for %d writes a cost of %+v, for one less of %+v", fuse, c, last)
			}
			last = c
			if e == api.OK {
				want := changed(whole, func(d *api.Disk) { d.Fuse = got.Fuse })
				if !alike(got, want) || fuse > 2*sectors+8 {
					t.Fatalf("with power for %d writes: %v\nas it should be:\n%v", fuse, got, want)
				}
				break
			}
			if e != api.ErrPower || !got.Down || disk.Check(got) != api.OK {
				t.Fatalf("with power for %d writes: error %d, %v", fuse, e, got)
			}
			for _, keep := range keeps(len(got.Waits)) {
				if isCrashed(t, got, keep, whole, without) {
					wholes++
				}
			}
		}
		if e != api.OK || wholes == 0 {
			t.Fatalf("error %d; %d times the file was whole behind a crash", e, wholes)
		}
	}
}

// texts are all a disk's, by where they lie; the empty one lies nowhere.
func texts(d api.Disk) map[*byte]int {
	of := map[*byte]int{}
	for _, x := range d.Extents {
		of[unsafe.StringData(x.Name)]++
		of[unsafe.StringData(x.Data)]++
	}
	for _, one := range d.Waits {
		of[unsafe.StringData(one.Name)]++
		of[unsafe.StringData(one.Data)]++
	}
	return of
}

// shares tells whether two disks share a list or a text.
func shares(a, b api.Disk) bool {
	of := texts(a)
	for text := range texts(b) {
		if of[text] > 0 {
			return true
		}
	}
	return len(a.Extents)*len(b.Extents) > 0 && &a.Extents[0] == &b.Extents[0] || len(a.Waits)*len(b.Waits) > 0 && &a.Waits[0] == &b.Waits[0]
}

// 10.4: what each call, refused or not, answers is its own, and what was handed in is as it was.
func TestNewMemory(t *testing.T) {
	for _, by := range []func(d *api.Disk){func(*api.Disk) {}, func(d *api.Disk) { d.Fuse = 0 }, func(d *api.Disk) { d.Fuse = 5 }, func(d *api.Disk) { d.Down = true }} {
		for _, names := range [][]string{{"c", "a", "b", "a"}, {"n"}, {"w"}, {"none"}, {"u"}, {}} {
			for _, budget := range []int{api.MinBudget, api.MaxFrames, 1} {
				d, was, to := changed(busy(t), by), slices.Clone(names), strings.Repeat("t", 2)
				got, _, _ := merge.Merge(d, budget, to, names...)
				again, _, _ := merge.Merge(d, budget, to, names...)
				if shares(got, d) || shares(got, again) || texts(got)[unsafe.StringData(to)] > 0 {
					t.Fatalf("Merge of %v: what is answered is no new memory", names)
				}
				clear(got.Extents)
				clear(got.Waits)
				next, _, _ := merge.Merge(d, budget, to, names...)
				if _, _, _, e := merge.Sorted(d, budget, "a"); e == api.ErrForm {
					t.Fatal("Sorted: the disk is not right any more")
				}
				if !alike(next, again) || !alike(d, changed(busy(t), by)) || !slices.Equal(names, was) {
					t.Fatalf("Merge of %v: what was answered, or handed in, is kept", names)
				}
			}
		}
	}
}

// P1, P3, P4: whatever is handed in, each call answers the same twice, and leaves no goroutine.
func TestWhatever(t *testing.T) {
	before := runtime.NumGoroutine()
	d := busy(t)
	disks := []api.Disk{{}, {Size: -1}, {Size: 3, Fuse: -1}, d, changed(d, func(d *api.Disk) { d.Waits = nil }), changed(d, func(d *api.Disk) { d.Fuse = 2 }), changed(d, func(d *api.Disk) { d.Down = true })}
	r := rand.New(rand.NewPCG(10, 10))
	for range 60 {
		one := turned(d, "a", r.IntN(api.SectorSize+20))
		disks = append(disks, changed(one, func(d *api.Disk) { d.Fuse = r.IntN(30) - 2 }))
	}
	names := []string{"", "a", "b", "c", "n", "u", "raw", "none", longest + "n"}
	for _, d := range disks {
		for range 40 {
			a, b, to := names[r.IntN(len(names))], names[r.IntN(len(names))], names[r.IntN(len(names))]
			budget := []int{-1, 0, api.MinBudget - 1, api.MinBudget, api.MinBudget, 99, api.MaxFrames, api.MaxFrames + 1}[r.IntN(8)]
			one, c, e := merge.Merge(d, budget, to, a, b, a)
			other, g, f := merge.Merge(d, budget, to, a, b, a)
			if !alike(one, other) || c != g || e != f {
				t.Fatalf("Merge: error %d, and then %d", e, f)
			}
			if e != api.OK && e != api.ErrPower && (c != api.Cost{}) {
				t.Fatalf("Merge: error %d beside a cost of %+v", e, c)
			}
			n, is, c, e := merge.Sorted(d, budget, a)
			m, was, g, f := merge.Sorted(d, budget, a)
			if n != m || is != was || c != g || e != f {
				t.Fatalf("Sorted: error %d, and then %d", e, f)
			}
			if e != api.OK && (n != 0 || is || c != api.Cost{}) {
				t.Fatalf("Sorted: error %d beside %d, %v, and a cost of %+v", e, n, is, c)
			}
		}
	}
	if after := runtime.NumGoroutine(); after > before {
		t.Errorf("%d goroutines, where %d were", after, before)
	}
}
