package runs_test

import (
	"fmt"
	"math"
	"math/rand/v2"
	"runtime"
	"slices"
	"strings"
	"testing"
	"unsafe"

	"wringer/api"
	"wringer/disk"
	"wringer/recs"
	"wringer/runs"
)

// longest is a name of MaxName bytes, and longestPrefix what that of a run may begin with.
var (
	longest       = strings.Repeat("n", api.MaxName)
	longestPrefix = strings.Repeat("p", api.MaxName-4)
)

// all is a sector that has nothing but c.
func all(c string) string { return strings.Repeat(c, api.SectorSize) }

// some makes records, the same at each run; of many there are some that are alike.
func some(width, many int) [][]uint64 {
	r := rand.New(rand.NewPCG(uint64(width), uint64(many)))
	l := make([][]uint64, many)
	for i := range l {
		for range width {
			l[i] = append(l[i], r.Uint64()>>(24+r.IntN(40)))
		}
	}
	return l
}

// file is a file of records that is to be on a disk.
type file struct {
	name    string
	width   int
	records [][]uint64
}

// with is a disk with these files, an extent that is no file, and some room.
func with(t *testing.T, room int, files ...file) api.Disk {
	t.Helper()
	size := 2 + room
	for _, f := range files {
		need, _ := recs.Need(f.width, uint64(len(f.records)))
		size += need
	}
	d := api.Disk{Size: size, Extents: []api.Extent{{Name: "raw", Data: all("1") + all("2")}}, Fuse: -1}
	for _, f := range files {
		var e api.Errno
		if d, e = recs.Write(d, f.name, f.width, f.records); e != api.OK {
			t.Fatalf("a disk with %s: error %d", f.name, e)
		}
	}
	return d
}

// busy is a disk with some files, on which writes wait, to one of the files and to what is none; of the file w there are three runs, under the least budget.
func busy(t *testing.T) api.Disk {
	t.Helper()
	d := with(t, 200, file{"a", 1, some(1, 30)}, file{"b", 3, some(3, 80)}, file{"n", 2, nil}, file{"w", 8, some(8, 55)})
	d, _ = disk.Write(d, "raw", 1, all("w"))
	d, _ = disk.Write(d, "w", 2, all("\x01"))
	d, _ = disk.Write(d, "raw", 0, all("x"))
	d, _ = disk.Write(d, "w", 2, all("\x02"))
	return d
}

// changed is a disk with something done to it by hand.
func changed(d api.Disk, by func(d *api.Disk)) api.Disk {
	d.Extents, d.Waits = slices.Clone(d.Extents), slices.Clone(d.Waits)
	by(&d)
	return d
}

// synced is a disk with all done that waited.
func synced(d api.Disk) api.Disk {
	d, _ = disk.Sync(d)
	return d
}

// alike holds two disks against each other; nil and empty lists are alike.
func alike(a, b api.Disk) bool {
	return a.Size == b.Size && a.Fuse == b.Fuse && a.Down == b.Down && slices.Equal(a.Extents, b.Extents) && slices.Equal(a.Waits, b.Waits)
}

// records are a file's.
func records(t *testing.T, d api.Disk, name string) (int, [][]uint64) {
	t.Helper()
	d = synced(d)
	width, count, e := recs.Head(d, name)
	if e != api.OK {
		t.Fatalf("%s: error %d", name, e)
	}
	// What is behind the body may be anything.
	at := slices.IndexFunc(d.Extents, func(x api.Extent) bool { return x.Name == name })
	body := d.Extents[at].Data[api.SectorSize:]
	l := make([][]uint64, count)
	for i := range l {
		for range width {
			n := uint64(0)
			for _, b := range []byte(body[:5]) {
				n = n<<8 | uint64(b)
			}
			l[i], body = append(l[i], n), body[5:]
		}
	}
	return width, l
}

// size is how many records a run has, by the chapter's words.
func size(budget, width int) int { return (64*budget - 64*8) / (5 * width) }

// cutUp are the runs of a file of a disk, by the chapter's words.
func cutUp(t *testing.T, d api.Disk, budget int, from, prefix string) []file {
	t.Helper()
	width, l := records(t, d, from)
	files := []file{}
	for len(l) > 0 {
		many := min(len(l), size(budget, width))
		part := slices.Clone(l[:many])
		slices.SortStableFunc(part, slices.Compare[[]uint64])
		files = append(files, file{fmt.Sprintf("%s%04d", prefix, len(files)), width, part})
		l = l[many:]
	}
	return files
}

// sectors are how many sectors all these files have together.
func sectors(files []file) int {
	many := 0
	for _, f := range files {
		need, _ := recs.Need(f.width, uint64(len(f.records)))
		many += need
	}
	return many
}

// isCheap holds a cost against what it may be at most, of a file and runs of so many sectors together.
func isCheap(t *testing.T, what string, c api.Cost, budget, sectors int) {
	t.Helper()
	if c.Reads+c.Writes > uint64(4*sectors+8) || c.Frames < 1 || c.Frames > budget {
		t.Fatalf("%s: a cost of %+v, of a budget of %d and files of %d sectors", what, c, budget, sectors)
	}
}

// isCut has a file be cut into its runs, and nothing else.
func isCut(t *testing.T, what string, d api.Disk, budget int, from, prefix string) {
	t.Helper()
	files := cutUp(t, d, budget, from, prefix)
	want := synced(d)
	for _, f := range files {
		var e api.Errno
		if want, e = recs.Write(want, f.name, f.width, f.records); e != api.OK {
			t.Fatalf("%s: as it should be: error %d", what, e)
		}
	}
	got, many, c, e := runs.Cut(d, budget, from, prefix)
	if !alike(got, want) || many != len(files) || e != api.OK {
		t.Fatalf("%s: error %d; %d runs, where there are %d; %v\nas it should be:\n%v", what, e, many, len(files), got, want)
	}
	own, _ := disk.Sectors(d, from)
	isCheap(t, what, c, budget, own+sectors(files))
	if c.Writes < uint64(sectors(files)) || c.Reads < uint64(own-1) {
		t.Fatalf("%s: a cost of %+v, of a file of %d sectors, where %d have come", what, c, own, sectors(files))
	}
}

// isRefused has a cut tell an error, and the disk as it was: zero, if that is not right.
func isRefused(t *testing.T, what string, d api.Disk, budget int, from, prefix string, want api.Errno) {
	t.Helper()
	was := d
	if disk.Check(d) != api.OK {
		was = api.Disk{}
	}
	got, many, c, e := runs.Cut(d, budget, from, prefix)
	if !alike(got, was) || many != 0 || c != (api.Cost{}) || e != want {
		t.Fatalf("%s: error %d, not %d; %d runs; a cost of %+v; %v\nas it was:\n%v", what, e, want, many, c, got, was)
	}
}

func TestExample(t *testing.T) {
	if many, e := runs.Size(24, 1); many != 204 || e != api.OK {
		t.Errorf("Size: %d, error %d", many, e)
	}
}

// budgets are some that are right, the least and the most of them, and widths all.
func budgets(each func(budget, width int)) {
	for _, budget := range []int{api.MinBudget, api.MinBudget + 1, 31, 100, api.MaxFrames - 1, api.MaxFrames} {
		for width := 1; width <= api.MaxWidth; width++ {
			each(budget, width)
		}
	}
}

// wrongSizes are budgets and widths that are wrong, and what is told of them.
var wrongSizes = []struct {
	budget, width int
	want          api.Errno
}{
	{api.MinBudget - 1, 1, api.ErrBudget}, {0, 1, api.ErrBudget}, {-1, 8, api.ErrBudget}, {math.MinInt, 1, api.ErrBudget},
	{8, 1, api.ErrBudget}, {api.MinBudget - 1, 0, api.ErrBudget}, {api.MinBudget - 1, 9, api.ErrBudget}, {math.MinInt, math.MinInt, api.ErrBudget},
	{api.MaxFrames + 1, 1, api.ErrRange}, {math.MaxInt, 8, api.ErrRange}, {api.MaxFrames + 1, 0, api.ErrRange},
	{api.MinBudget, 0, api.ErrRange}, {api.MinBudget, -1, api.ErrRange}, {api.MinBudget, math.MinInt, api.ErrRange},
	{api.MinBudget, api.MaxWidth + 1, api.ErrRange}, {api.MaxFrames, api.MaxWidth + 1, api.ErrRange}, {api.MaxFrames, math.MaxInt, api.ErrRange},
}

// 9.1
func TestSize(t *testing.T) {
	budgets(func(budget, width int) {
		if many, e := runs.Size(budget, width); many != size(budget, width) || e != api.OK {
			t.Errorf("Size(%d, %d): %d, error %d", budget, width, many, e)
		}
	})
	for _, l := range []struct{ budget, width, want int }{{24, 1, 204}, {24, 8, 25}, {25, 1, 217}, {256, 1, 3174}, {256, 8, 396}, {26, 3, 76}} {
		if many, e := runs.Size(l.budget, l.width); many != l.want || e != api.OK {
			t.Errorf("Size(%d, %d): %d, error %d", l.budget, l.width, many, e)
		}
	}
	for _, l := range wrongSizes {
		if many, e := runs.Size(l.budget, l.width); many != 0 || e != l.want {
			t.Errorf("Size(%d, %d): %d, error %d", l.budget, l.width, many, e)
		}
	}
}

// 9.1
func TestMany(t *testing.T) {
	budgets(func(budget, width int) {
		each := uint64(size(budget, width))
		for _, count := range []uint64{0, 1, 2, each - 1, each, each + 1, 2*each - 1, 2 * each, 2*each + 1, api.MaxCount - 1, api.MaxCount} {
			want := 0
			for left := count; left > 0; left -= min(left, each) {
				want++
			}
			if many, e := runs.Many(budget, width, count); many != want || e != api.OK {
				t.Errorf("Many(%d, %d, %d): %d, error %d", budget, width, count, many, e)
			}
		}
		for _, count := range []uint64{api.MaxCount + 1, 1 << 40, 1 << 63, math.MaxUint64} {
			if many, e := runs.Many(budget, width, count); many != 0 || e != api.ErrRange {
				t.Errorf("Many(%d, %d, %d): %d, error %d", budget, width, count, many, e)
			}
		}
	})
	if many, e := runs.Many(24, 1, 205); many != 2 || e != api.OK {
		t.Errorf("Many of one more than a run has: %d, error %d", many, e)
	}
	for _, l := range wrongSizes {
		for _, count := range []uint64{0, 1, api.MaxCount, api.MaxCount + 1, math.MaxUint64} {
			if many, e := runs.Many(l.budget, l.width, count); many != 0 || e != l.want {
				t.Errorf("Many(%d, %d, %d): %d, error %d", l.budget, l.width, count, many, e)
			}
		}
	}
}

// 9.1
func TestName(t *testing.T) {
	for _, prefix := range []string{"x", "=~", "\x00", "\xff7", "ü0000", longestPrefix} {
		for i := range 10000 {
			if s, e := runs.Name(prefix, i); s != fmt.Sprintf("%s%04d", prefix, i) || e != api.OK {
				t.Fatalf("Name(%q, %d): %q, error %d", prefix, i, s, e)
			}
		}
	}
	for _, prefix := range []string{"", "x", longestPrefix, longestPrefix + "p", longest, longest + "n", strings.Repeat("p", 1000)} {
		for _, i := range []int{math.MinInt, -10000, -1, 0, 9999, 10000, 10001, 99999, math.MaxInt} {
			if i >= 0 && i < 10000 && (prefix == "x" || prefix == longestPrefix) {
				continue
			}
			if s, e := runs.Name(prefix, i); s != "" || e != api.ErrRange {
				t.Errorf("Name(%q, %d): %q, error %d", prefix, i, s, e)
			}
		}
	}
}

// 9.2, 9.4, 9.5: no records, one, as many as one run holds, and one more or less, under budgets of all sizes.
func TestCut(t *testing.T) {
	budgets(func(budget, width int) {
		if budget > 31 && width > 1 && width < api.MaxWidth {
			return
		}
		each := size(budget, width)
		for _, many := range []int{0, 1, 2, each - 1, each, each + 1, 2*each - 1, 2 * each, 2*each + 1} {
			d := with(t, 20*budget, file{"a", width, some(width, many)})
			isCut(t, fmt.Sprintf("Cut under %d of %d of width %d", budget, many, width), d, budget, "a", "r")
		}
	})
}

// 9.2, 9.4: whatever order the records have, of all their numbers, be they alike or not.
func TestCutOrders(t *testing.T) {
	for width := 1; width <= api.MaxWidth; width++ {
		for what, l := range map[string][][]uint64{
			"sorted":      slices.SortedFunc(slices.Values(some(width, 450)), slices.Compare[[]uint64]),
			"the same":    slices.Repeat([][]uint64{slices.Repeat([]uint64{7}, width)}, 450),
			"of few":      slices.Concat(slices.Repeat(some(width, 3), 70), slices.Repeat(some(width, 5), 40)),
			"the highest": slices.Repeat([][]uint64{slices.Repeat([]uint64{api.MaxNum - 1}, width), make([]uint64, width)}, 100),
		} {
			isCut(t, "Cut of records "+what, with(t, 600, file{"a", width, l}), api.MinBudget, "a", "r")
			slices.Reverse(l)
			isCut(t, "Cut of records the other way round from "+what, with(t, 600, file{"a", width, l}), api.MinBudget, "a", "r")
		}
	}
	last := [][]uint64{}
	for i := range uint64(300) {
		last = append(last, []uint64{1, 2, 3, 4, 5, 6, 7, (i * 77) % 300})
	}
	isCut(t, "Cut of records whose last numbers alone are two", with(t, 600, file{"a", 8, last}), api.MinBudget, "a", "r")
}

// 9.2, chapter 7, words: where writes wait, what is seen is cut, and all that waits is synced, also where there are no runs.
func TestCutBusy(t *testing.T) {
	d := busy(t)
	for _, name := range []string{"a", "b", "n", "w"} {
		for _, budget := range []int{api.MinBudget, 29, api.MaxFrames} {
			isCut(t, "Cut where writes wait", d, budget, name, longestPrefix)
			isCut(t, "Cut where writes wait", d, budget, name, "\x00")
		}
	}
	for _, many := range []int{api.MaxWaits, api.MaxWaits - 1} {
		d := changed(d, func(d *api.Disk) {
			more := slices.Repeat([]api.Write{{Name: "raw", Data: all("?")}}, many-len(d.Waits))
			d.Waits = append(more, d.Waits...)
		})
		isCut(t, "Cut where as many wait as may", d, api.MinBudget, "w", "r")
		isCut(t, "Cut of no records where as many wait as may", d, api.MinBudget, "n", "r")
	}
}

// 9.2, 9.5: as many records as a file may have, under the least budget and the most.
func TestCutMost(t *testing.T) {
	d := with(t, 6000, file{longest, 1, some(1, api.MaxCount)})
	isCut(t, "Cut of MaxCount records", d, api.MinBudget, longest, "r")
	isCut(t, "Cut of MaxCount records", d, api.MaxFrames, longest, "r")
}

// 9.2: names that are nobody's run's may be there.
func TestCutBeside(t *testing.T) {
	d := with(t, 200, file{"r", 8, some(8, 51)})
	for _, name := range []string{"r0003", "r000", "r00000", "r9999", "q0000", "R0000"} {
		d, _ = disk.New(d, name, 1)
	}
	isCut(t, "Cut beside names that are like those of runs", d, api.MinBudget, "r", "r")
	d = with(t, 200, file{"r0000", 1, nil})
	isCut(t, "Cut of no records where there is an extent r0000", d, api.MinBudget, "r0000", "r")
}

// 9.2: a disk that is not right comes ahead of one without power, that of a budget, and that of all others.
func TestBudget(t *testing.T) {
	d := busy(t)
	bad := changed(d, func(d *api.Disk) { d.Size, d.Down = 1, true })
	down := changed(d, func(d *api.Disk) { d.Down, d.Fuse = true, 0 })
	for _, from := range []string{"a", "b", "n", "w", "none", "raw", ""} {
		for _, prefix := range []string{"r", "", longest} {
			for _, budget := range []int{api.MinBudget, api.MaxFrames, api.MinBudget - 1, api.MaxFrames + 1, 0} {
				isRefused(t, "a disk that is not right", bad, budget, from, prefix, api.ErrForm)
				isRefused(t, "a disk without power", down, budget, from, prefix, api.ErrPower)
			}
			for _, budget := range []int{api.MinBudget - 1, 1, 0, -1, math.MinInt} {
				isRefused(t, "too small a budget", d, budget, from, prefix, api.ErrBudget)
			}
			for _, budget := range []int{api.MaxFrames + 1, 1 << 20, math.MaxInt} {
				isRefused(t, "too great a budget", d, budget, from, prefix, api.ErrRange)
			}
		}
	}
}

// turned is a disk with a byte of an extent that is another.
func turned(d api.Disk, name string, at int) api.Disk {
	return changed(d, func(d *api.Disk) {
		i := slices.IndexFunc(d.Extents, func(x api.Extent) bool { return x.Name == name })
		data := []byte(d.Extents[i].Data)
		data[at] ^= 1
		d.Extents[i].Data = string(data)
	})
}

// 9.2: the error of the file's records comes ahead of that of the prefix, of a name that is there, and of room.
func TestRecordsWrong(t *testing.T) {
	d := with(t, 9, file{"f", 1, some(1, 3)}, file{"r0000", 1, some(1, 3)})
	gone, _ := disk.Free(d, "f")
	text, _ := recs.WriteText(gone, "f", "xyz")
	empty, _ := recs.WriteText(gone, "f", "")
	raw, _ := disk.New(gone, "f", 2)
	waits, _ := disk.Write(d, "f", 0, all("\x00"))
	long := changed(d, func(d *api.Disk) { d.Extents[0].Data += all("\x00") })
	for _, l := range []struct {
		what string
		d    api.Disk
		want api.Errno
	}{
		{"no such file", gone, api.ErrNone},
		{"a file of bytes", text, api.ErrCode},
		{"a file of no bytes", empty, api.ErrCode},
		{"no head", raw, api.ErrForm},
		{"no head, once what waits is done", waits, api.ErrForm},
		{"no mark", turned(d, "f", 0), api.ErrForm},
		{"another sum", turned(d, "f", 9), api.ErrSum},
		{"another count", turned(d, "f", 7), api.ErrSum},
		{"another end of the head", turned(d, "f", 63), api.ErrForm},
		{"a sector too many", long, api.ErrForm},
	} {
		full := changed(l.d, func(d *api.Disk) {
			d.Size = 0
			for _, x := range d.Extents {
				d.Size += len(x.Data) / api.SectorSize
			}
		})
		for _, prefix := range []string{"q", "r", "", longest} {
			isRefused(t, l.what, l.d, api.MinBudget, "f", prefix, l.want)
			isRefused(t, l.what+", and no room", full, api.MaxFrames, "f", prefix, l.want)
		}
	}
	for _, name := range []string{"", longest, longest + "n"} {
		isRefused(t, "no such file", d, api.MinBudget, name, "q", api.ErrNone)
	}
}

// 9.2, chapter 7, words: what is behind a body is not asked, and is in no run.
func TestBehind(t *testing.T) {
	d := with(t, 40, file{"a", 1, some(1, 14)})
	for at := api.SectorSize + 5*14; at < 3*api.SectorSize; at += 7 {
		d = turned(d, "a", at)
	}
	if _, _, e := recs.Read(d, "a"); e != api.ErrCode {
		t.Fatalf("what is behind a body that is not 0: error %d", e)
	}
	isCut(t, "Cut", d, api.MinBudget, "a", "r")
}

// 9.2: what a run's name may begin with, and a name that is there, whichever it is, come ahead of room.
func TestNamesWrong(t *testing.T) {
	d := busy(t)
	room, _ := disk.Room(d)
	for _, prefix := range []string{"", longestPrefix + "p", longest, strings.Repeat("p", 1000)} {
		for _, from := range []string{"a", "b", "n", "w"} {
			isRefused(t, "a prefix that is none", d, api.MinBudget, from, prefix, api.ErrRange)
			isRefused(t, "a prefix that is none, and no room", changed(d, func(d *api.Disk) { d.Size -= room }), api.MinBudget, from, prefix, api.ErrRange)
		}
	}
	for i := range 3 {
		name, _ := runs.Name("r", i)
		there, e := disk.New(d, name, 1)
		if e != api.OK {
			t.Fatalf("a disk with %s: error %d", name, e)
		}
		isRefused(t, "a name that is there", there, api.MinBudget, "w", "r", api.ErrTwice)
		isRefused(t, "a name that is there, and no room", changed(there, func(d *api.Disk) { d.Size -= room - 1 }), api.MinBudget, "w", "r", api.ErrTwice)
	}
	itself := with(t, 200, file{"r0001", 8, some(8, 26)})
	isRefused(t, "the file's own name", itself, api.MinBudget, "r0001", "r", api.ErrTwice)
	isCut(t, "the file's own name, where there is one run", itself, 25, "r0001", "r")
	again, _, _, e := runs.Cut(d, api.MinBudget, "w", "r")
	if e != api.OK {
		t.Fatalf("Cut: error %d", e)
	}
	isRefused(t, "Cut again", again, api.MinBudget, "w", "r", api.ErrTwice)
}

// 9.2: just as much room as all runs need, and a sector less.
func TestRoom(t *testing.T) {
	for _, from := range []string{"a", "b", "w"} {
		for _, budget := range []int{api.MinBudget, 29, api.MaxFrames} {
			d := busy(t)
			room, _ := disk.Room(d)
			just := changed(d, func(d *api.Disk) { d.Size -= room - sectors(cutUp(t, busy(t), budget, from, "r")) })
			isCut(t, "just as much room", just, budget, from, "r")
			for _, less := range []int{1, 2, sectors(cutUp(t, d, budget, from, "r"))} {
				isRefused(t, "no room", changed(just, func(d *api.Disk) { d.Size -= less }), budget, from, "r", api.ErrFull)
			}
		}
	}
	d := busy(t)
	room, _ := disk.Room(d)
	isCut(t, "no room, and no records", changed(d, func(d *api.Disk) { d.Size -= room }), api.MinBudget, "n", "r")
}

// 9.2, chapter 7, words: errors are told ahead of all that is done: however much power there is, the disk is as it was.
func TestRefusedPower(t *testing.T) {
	there, _ := disk.New(busy(t), "r0002", 1)
	room, _ := disk.Room(there)
	none := changed(there, func(d *api.Disk) { d.Size -= room + 1 - sectors(cutUp(t, there, api.MinBudget, "w", "q")) })
	for fuse := range 40 {
		there, none := changed(there, func(d *api.Disk) { d.Fuse = fuse }), changed(none, func(d *api.Disk) { d.Fuse = fuse })
		isRefused(t, "the last run's name is there", there, api.MinBudget, "w", "r", api.ErrTwice)
		isRefused(t, "no room for the last run", none, api.MinBudget, "w", "q", api.ErrFull)
		isRefused(t, "no room for the last run, whose name is there", none, api.MinBudget, "w", "r", api.ErrTwice)
		isRefused(t, "a prefix that is none", none, api.MinBudget, "w", "", api.ErrRange)
		isRefused(t, "no such file", none, api.MinBudget, "none", "r", api.ErrNone)
	}
}

// keeps are some of what may be kept of so many writes: none, all, each one alone, all but each, and others.
func keeps(n int) [][]bool {
	l := [][]bool{nil, slices.Repeat([]bool{true}, n)}
	r := rand.New(rand.NewPCG(9, uint64(n)))
	for i := range n {
		one, but, any := make([]bool, n), slices.Repeat([]bool{true}, n), make([]bool, n)
		one[i], but[i] = true, false
		for j := range any {
			any[j] = r.IntN(2) == 0
		}
		l = append(l, one, but, any)
	}
	return l
}

// wholes holds what is behind a crash against what may be: each run is whole, or has no head, or is not there; all else is as it was. It tells how many are whole.
func wholes(t *testing.T, what string, d api.Disk, keep []bool, files []file, whole, without api.Disk) int {
	t.Helper()
	crashed, e := disk.Crash(d, keep...)
	if e != api.OK {
		t.Fatalf("%s: Crash: error %d", what, e)
	}
	many := 0
	for _, f := range files {
		_, _, e := recs.Head(crashed, f.name)
		if e == api.ErrNone {
			continue
		}
		if e == api.OK {
			many++
			is := slices.IndexFunc(crashed.Extents, func(x api.Extent) bool { return x.Name == f.name })
			if !slices.Contains(whole.Extents, crashed.Extents[is]) {
				t.Fatalf("%s: behind the crash %s is %v", what, f.name, crashed.Extents[is])
			}
		} else if e != api.ErrForm {
			t.Fatalf("%s: behind the crash: error %d of %s", what, e, f.name)
		}
		crashed, _ = disk.Free(crashed, f.name)
	}
	if !alike(crashed, without) {
		t.Fatalf("%s: behind the crash: %v\nas it should be, but for the runs:\n%v", what, crashed, without)
	}
	return many
}

// 9.2, chapter 7, words: wherever the power goes, the error is told beside the disk as it is then, and what it cost so far; behind the crash each run is whole or has no head.
func TestPower(t *testing.T) {
	for _, from := range []string{"a", "b", "w"} {
		without := synced(busy(t))
		files := cutUp(t, busy(t), api.MinBudget, from, "r")
		whole, _, _, _ := runs.Cut(busy(t), api.MinBudget, from, "r")
		own, _ := disk.Sectors(without, from)
		found, e, last := map[int]int{}, api.ErrPower, api.Cost{}
		for fuse := 0; e == api.ErrPower; fuse++ {
			var got api.Disk
			var c api.Cost
			var many int
			got, many, c, e = runs.Cut(changed(busy(t), func(d *api.Disk) { d.Fuse = fuse }), api.MinBudget, from, "r")
			isCheap(t, from, c, api.MinBudget, own+sectors(files))
			if c.Reads < last.Reads || c.Writes < last.Writes {
				t.Fatalf("%s: with power for %d writes a cost of %+v, for one less of %+v", from, fuse, c, last)
			}
			last = c
			if e == api.OK {
				want := changed(whole, func(d *api.Disk) { d.Fuse = got.Fuse })
				if !alike(got, want) || many != len(files) || fuse > 4*(own+sectors(files))+8 {
					t.Fatalf("%s: with power for %d writes: %d runs, %v\nas it should be:\n%v", from, fuse, many, got, want)
				}
				break
			}
			if e != api.ErrPower || many != 0 || !got.Down || disk.Check(got) != api.OK {
				t.Fatalf("%s: with power for %d writes: error %d, %d runs, %v", from, fuse, e, many, got)
			}
			for _, keep := range keeps(len(got.Waits)) {
				found[wholes(t, from, got, keep, files, whole, without)]++
			}
		}
		if e != api.OK || found[0] == 0 || found[len(files)] == 0 {
			t.Fatalf("%s: error %d; behind crashes there were as many runs whole as %v", from, e, found)
		}
	}
}

// texts are all a disk's, by where they lie; the empty one lies nowhere.
func texts(d api.Disk) map[*byte]int {
	of := map[*byte]int{}
	for _, x := range d.Extents {
		of[unsafe.StringData(x.Name)]++
		of[unsafe.StringData(x.Data)]++
	}
	for _, one := range d.Waits {
		of[unsafe.StringData(one.Name)]++
		of[unsafe.StringData(one.Data)]++
	}
	return of
}

// shares tells whether two disks share a list or a text.
func shares(a, b api.Disk) bool {
	of := texts(a)
	for text := range texts(b) {
		if of[text] > 0 {
			return true
		}
	}
	return len(a.Extents)*len(b.Extents) > 0 && &a.Extents[0] == &b.Extents[0] || len(a.Waits)*len(b.Waits) > 0 && &a.Waits[0] == &b.Waits[0]
}

// 9.3: what each call, refused or not, answers is its own, and what was handed in is as it was.
func TestNewMemory(t *testing.T) {
	for _, by := range []func(d *api.Disk){func(*api.Disk) {}, func(d *api.Disk) { d.Fuse = 0 }, func(d *api.Disk) { d.Fuse = 20 }, func(d *api.Disk) { d.Down = true }} {
		for _, from := range []string{"a", "b", "n", "w", "none"} {
			for _, budget := range []int{api.MinBudget, api.MaxFrames, 1} {
				d := changed(busy(t), by)
				got, _, _, _ := runs.Cut(d, budget, from, "r")
				again, _, _, _ := runs.Cut(d, budget, from, "r")
				if shares(got, d) || shares(got, again) {
					t.Fatalf("Cut of %s: what is answered is no new memory", from)
				}
				clear(got.Extents)
				clear(got.Waits)
				if next, _, _, _ := runs.Cut(d, budget, from, "r"); !alike(next, again) || !alike(d, changed(busy(t), by)) {
					t.Fatalf("Cut of %s: what was answered, or handed in, is kept", from)
				}
			}
		}
	}
}

// P1, P3, P4: whatever is handed in, a call answers the same twice, and leaves no goroutine.
func TestWhatever(t *testing.T) {
	before := runtime.NumGoroutine()
	d := busy(t)
	disks := []api.Disk{{}, {Size: -1}, {Size: 3, Fuse: -1}, d, changed(d, func(d *api.Disk) { d.Waits = nil }), changed(d, func(d *api.Disk) { d.Fuse = 2 }), changed(d, func(d *api.Disk) { d.Down = true })}
	r := rand.New(rand.NewPCG(9, 9))
	for range 100 {
		one := turned(d, "w", r.IntN(api.SectorSize+20))
		disks = append(disks, changed(one, func(d *api.Disk) { d.Fuse = r.IntN(60) - 2 }))
	}
	for _, d := range disks {
		for range 20 {
			from := []string{"", "a", "b", "n", "raw", "none", "w", longest + "n"}[r.IntN(8)]
			prefix := []string{"", "r", "w", longestPrefix, longest}[r.IntN(5)]
			budget := []int{-1, 0, api.MinBudget - 1, api.MinBudget, api.MinBudget, 99, api.MaxFrames, api.MaxFrames + 1}[r.IntN(8)]
			one, n, c, e := runs.Cut(d, budget, from, prefix)
			other, m, g, f := runs.Cut(d, budget, from, prefix)
			if !alike(one, other) || n != m || c != g || e != f {
				t.Fatalf("error %d, and then %d", e, f)
			}
			if e != api.OK && (n != 0 || e != api.ErrPower && c != api.Cost{}) {
				t.Fatalf("error %d beside %d runs, and a cost of %+v", e, n, c)
			}
		}
	}
	if after := runtime.NumGoroutine(); after > before {
		t.Errorf("%d goroutines, where %d were", after, before)
	}
}
