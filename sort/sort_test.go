package sort_test

import (
	"math"
	"math/rand/v2"
	"runtime"
	"slices"
	"strconv"
	"strings"
	"testing"
	"unsafe"

	"wringer/api"
	"wringer/crc"
	"wringer/disk"
	"wringer/merge"
	"wringer/num"
	"wringer/recs"
	"wringer/runs"
	"wringer/sort"
)

// longest is a name of MaxName bytes.
var longest = strings.Repeat("n", api.MaxName)

// all is a sector that has nothing but c.
func all(c string) string { return strings.Repeat(c, api.SectorSize) }

// inOrder are records in order.
func inOrder(l [][]uint64) [][]uint64 {
	return slices.SortedStableFunc(slices.Values(l), slices.Compare[[]uint64])
}

// some makes records, the same at each run; of many there are some that are alike.
func some(width, many int) [][]uint64 {
	r := rand.New(rand.NewPCG(uint64(width), uint64(many)))
	l := make([][]uint64, many)
	for i := range l {
		if i > 0 && r.IntN(4) == 0 {
			l[i] = l[r.IntN(i)]
			continue
		}
		for range width {
			l[i] = append(l[i], r.Uint64()>>(24+r.IntN(40)))
		}
	}
	return l
}

// file is a file of records that is to be on a disk.
type file struct {
	name    string
	width   int
	records [][]uint64
}

// body is a file's extent, by the words of chapter 6.
func body(f file) api.Extent {
	many, _ := num.Put(uint64(len(f.records)))
	head, _ := crc.Frame("WR" + string([]byte{byte(f.width)}) + many)
	data := new(strings.Builder)
	data.WriteString(head + all("\x00")[len(head):])
	for _, one := range f.records {
		record, _ := num.Record(one...)
		data.WriteString(record)
	}
	data.WriteString(strings.Repeat("\x00", (api.SectorSize-data.Len()%api.SectorSize)%api.SectorSize))
	return api.Extent{Name: f.name, Data: data.String()}
}

// sectors are how many sectors a file has.
func sectors(f file) int { return len(body(f).Data) / api.SectorSize }

// used are how many sectors of a disk are in extents.
func used(d api.Disk) int {
	many := 0
	for _, x := range d.Extents {
		many += len(x.Data) / api.SectorSize
	}
	return many
}

// put is a disk with a file more, whatever room there is.
func put(d api.Disk, f file) api.Disk {
	return changed(d, func(d *api.Disk) {
		d.Extents = append(d.Extents, body(f))
		slices.SortFunc(d.Extents, func(a, b api.Extent) int { return strings.Compare(a.Name, b.Name) })
	})
}

// with is a disk with these files, an extent that is no file, and some room.
func with(t *testing.T, room int, files ...file) api.Disk {
	t.Helper()
	d := api.Disk{Extents: []api.Extent{{Name: "raw", Data: all("1") + all("2")}}, Fuse: -1}
	for _, f := range files {
		d = put(d, f)
	}
	d.Size = used(d) + room
	if e := disk.Check(d); e != api.OK {
		t.Fatalf("a disk with files: error %d", e)
	}
	return d
}

// changed is a disk with something done to it by hand.
func changed(d api.Disk, by func(d *api.Disk)) api.Disk {
	d.Extents, d.Waits = slices.Clone(d.Extents), slices.Clone(d.Waits)
	by(&d)
	return d
}

// roomy is a disk with so much room.
func roomy(d api.Disk, room int) api.Disk {
	return changed(d, func(d *api.Disk) { d.Size = used(*d) + room })
}

// busy is a disk with some files, of which s is sorted, and others are, once what waits is done.
func busy(t *testing.T) api.Disk {
	t.Helper()
	d := with(t, 300, file{"a", 1, some(1, 30)}, file{"b", 3, inOrder(some(3, 80))}, file{"c", 1, inOrder(some(1, 17))}, file{"n", 2, nil}, file{"s", 7, inOrder(some(7, 60))}, file{"w", 8, some(8, 55)}, file{"~", 1, some(1, 9)})
	was, _ := disk.Read(d, "c", 2)
	d, _ = disk.Write(d, "raw", 1, all("w"))
	d, _ = disk.Write(d, "c", 2, all("\x00"))
	d, _ = disk.Write(d, "raw", 0, all("x"))
	d, _ = disk.Write(d, "c", 2, was)
	return d
}

// synced is a disk with all done that waited.
func synced(d api.Disk) api.Disk {
	d, _ = disk.Sync(d)
	return d
}

// alike holds two disks against each other; nil and empty lists are alike.
func alike(a, b api.Disk) bool {
	return a.Size == b.Size && a.Fuse == b.Fuse && a.Down == b.Down && slices.Equal(a.Extents, b.Extents) && slices.Equal(a.Waits, b.Waits)
}

// read are a file's records; what is behind its body may be anything.
func read(t *testing.T, d api.Disk, name string) file {
	t.Helper()
	d = synced(d)
	width, count, e := recs.Head(d, name)
	if e != api.OK {
		t.Fatalf("%s: error %d", name, e)
	}
	at := slices.IndexFunc(d.Extents, func(x api.Extent) bool { return x.Name == name })
	l, e := num.Split(d.Extents[at].Data[api.SectorSize:][:5*width*int(count)], width)
	if e != api.OK {
		t.Fatalf("%s: error %d", name, e)
	}
	return file{name, width, l}
}

// op is one of the package's calls, and what it should make of a file's records, and tell.
type op struct {
	what string
	do   func(d api.Disk, budget int, from, to string) (api.Disk, uint64, api.Cost, api.Errno)
	want func(f file) (file, uint64)
	room func(budget int, f, want file) int // how much of it is needed
	ask  func(f file) api.Errno             // the error of records that there are
}

// sortOp is Sort.
func sortOp() op {
	return op{
		what: "Sort",
		do: func(d api.Disk, budget int, from, to string) (api.Disk, uint64, api.Cost, api.Errno) {
			d, c, e := sort.Sort(d, budget, from, to)
			return d, 0, c, e
		},
		want: func(f file) (file, uint64) { return file{"to", f.width, inOrder(f.records)}, 0 },
		room: func(budget int, f, want file) int {
			size, _ := runs.Size(budget, f.width)
			if len(f.records) <= size {
				return sectors(want)
			}
			many := sectors(want)
			for run := range slices.Chunk(f.records, size) {
				many += sectors(file{"run", f.width, run})
			}
			return many
		},
		ask: func(file) api.Errno { return api.OK },
	}
}

// unsorted is the error of records that are not sorted.
func unsorted(f file) api.Errno {
	if !slices.IsSortedFunc(f.records, slices.Compare) {
		return api.ErrOrder
	}
	return api.OK
}

// uniqueOp is Unique.
func uniqueOp() op {
	return op{
		what: "Unique",
		do:   sort.Unique,
		want: func(f file) (file, uint64) {
			l := slices.CompactFunc(slices.Clone(f.records), slices.Equal)
			return file{"to", f.width, l}, uint64(len(l))
		},
		room: func(_ int, _, want file) int { return sectors(want) },
		ask:  unsorted,
	}
}

// rankOp is Rank.
func rankOp() op {
	return op{
		what: "Rank",
		do:   sort.Rank,
		want: func(f file) (file, uint64) {
			l, name := [][]uint64{}, uint64(0)
			for i, record := range f.records {
				if i == 0 || !slices.Equal(record, f.records[i-1]) {
					name++
				}
				l = append(l, append([]uint64{name}, record...))
			}
			return file{"to", f.width + 1, l}, name
		},
		room: func(_ int, _, want file) int { return sectors(want) },
		ask: func(f file) api.Errno {
			if f.width == api.MaxWidth {
				return api.ErrRange
			}
			return unsorted(f)
		},
	}
}

// ops are all.
func ops() []op { return []op{sortOp(), uniqueOp(), rankOp()} }

// mayDo are those that may be done with a file.
func mayDo(f file) []op {
	return slices.DeleteFunc(ops(), func(o op) bool { return o.ask(f) != api.OK })
}

// most is what an operation with a file may cost at most: of Unique and Rank as of one pass less than none.
func most(o op, budget int, f file) uint64 {
	passes := 0
	if o.what == "Sort" {
		many, _ := runs.Many(budget, f.width, uint64(len(f.records)))
		passes, _ = merge.Passes(budget, many)
	}
	return uint64(8*sectors(f)+40) * uint64(passes+1)
}

// isDone has an operation be done with a file, and nothing else.
func isDone(t *testing.T, o op, what string, d api.Disk, budget int, from string) {
	t.Helper()
	f := read(t, d, from)
	made, many := o.want(f)
	want := put(synced(d), made)
	got, n, c, e := o.do(d, budget, from, "to")
	if !alike(got, want) || n != many || e != api.OK {
		t.Fatalf("%s %s, under %d: error %d; %d, where it should be %d; %v\nas it should be:\n%v", o.what, what, budget, e, n, many, got, want)
	}
	if c.Reads+c.Writes > most(o, budget, f) || c.Frames < 1 || c.Frames > budget {
		t.Fatalf("%s %s: a cost of %+v, of a budget of %d, and at most %d", o.what, what, c, budget, most(o, budget, f))
	}
	if c.Reads < uint64(sectors(f)) || c.Writes < uint64(sectors(made)) {
		t.Fatalf("%s %s: a cost of %+v, of %d sectors, where %d have come", o.what, what, c, sectors(f), sectors(made))
	}
}

// isRefused has an operation tell an error, and the disk as it was: zero, if that is not right.
func isRefused(t *testing.T, o op, what string, d api.Disk, budget int, from, to string, want api.Errno) {
	t.Helper()
	was := d
	if disk.Check(d) != api.OK {
		was = api.Disk{}
	}
	got, n, c, e := o.do(d, budget, from, to)
	if !alike(got, was) || n != 0 || c != (api.Cost{}) || e != want {
		t.Fatalf("%s of %s to %q, %s: error %d, not %d; %d; a cost of %+v; %v\nas it was:\n%v", o.what, from, to, what, e, want, n, c, got, was)
	}
}

func TestExample(t *testing.T) {
	d := with(t, 9, file{"a", 1, [][]uint64{{3}, {3}, {8}}})
	got, many, _, e := sort.Rank(d, api.MinBudget, "a", "to")
	if l := read(t, got, "to").records; e != api.OK || many != 2 || !slices.EqualFunc(l, [][]uint64{{1, 3}, {1, 3}, {2, 8}}, slices.Equal[[]uint64]) {
		t.Errorf("Rank: error %d, %d, %v", e, many, l)
	}
}

// 11.1, 11.2, 11.4: of all widths; of no records, one, as many as one run holds and one more or less, under budgets of all sizes.
func TestSizes(t *testing.T) {
	for _, budget := range []int{api.MinBudget, api.MinBudget + 1, 100, api.MaxFrames} {
		for width := 1; width <= api.MaxWidth; width++ {
			if budget > 30 && width > 2 && width < api.MaxWidth {
				continue
			}
			size, _ := runs.Size(budget, width)
			for _, many := range []int{0, 1, 2, 12, 13, size - 1, size, size + 1, 2*size - 1, 2 * size, 2*size + 1} {
				l := some(width, many)
				d := with(t, 4000, file{"a", width, l}, file{"s", width, inOrder(l)})
				isDone(t, sortOp(), strconv.Itoa(many)+" records", d, budget, "a")
				for _, o := range mayDo(file{"s", width, inOrder(l)}) {
					isDone(t, o, strconv.Itoa(many)+" records in order", d, budget, "s")
				}
			}
		}
	}
}

// 11.1, 11.4: as many runs as the fan-in, and one more; as many as two passes have, and one more.
func TestPasses(t *testing.T) {
	for _, l := range []struct{ budget, width, runs, passes int }{
		{24, 8, 17, 1}, {24, 8, 18, 1}, {24, 8, 19, 2}, {24, 8, 36, 2}, {24, 8, 37, 2}, {24, 1, 19, 2}, {25, 8, 19, 1}, {25, 8, 20, 2}, {24, 8, 324, 2}, {24, 8, 325, 3},
	} {
		size, _ := runs.Size(l.budget, l.width)
		for _, last := range []int{1, size} {
			many := (l.runs-1)*size + last
			n, _ := runs.Many(l.budget, l.width, uint64(many))
			if passes, _ := merge.Passes(l.budget, n); n != l.runs || passes != l.passes {
				t.Fatalf("%d runs, %d passes", n, passes)
			}
			f := file{"a", l.width, some(l.width, many)}
			d := with(t, 0, f)
			d = roomy(d, min(4*sectors(f)+16, api.MaxSectors-used(d)))
			isDone(t, sortOp(), strconv.Itoa(many)+" records", d, l.budget, "a")
		}
	}
}

// 11.1, 11.2: as many records as a file may have.
func TestMost(t *testing.T) {
	l := some(1, api.MaxCount)
	d := with(t, 10900, file{"a", 1, l})
	isDone(t, sortOp(), "MaxCount records", d, api.MinBudget, "a")
	isDone(t, sortOp(), "MaxCount records", d, api.MaxFrames, "a")
	d = with(t, 11000, file{"a", 1, inOrder(l)})
	isDone(t, uniqueOp(), "MaxCount records", d, api.MinBudget, "a")
	isDone(t, rankOp(), "MaxCount records", d, api.MinBudget, "a")
}

// 11.1, 11.2, 11.5: whatever order the records have, of all their numbers, be they alike or not.
func TestOrders(t *testing.T) {
	for width := 1; width <= api.MaxWidth; width++ {
		last := [][]uint64{}
		for i := range uint64(300) {
			last = append(last, slices.Repeat([]uint64{5}, width))
			last[i][width-1] = i * 77 % 300
		}
		for what, l := range map[string][][]uint64{
			"that are sorted":                     inOrder(some(width, 500)),
			"all alike":                           slices.Repeat([][]uint64{slices.Repeat([]uint64{7}, width)}, 500),
			"all 0":                               slices.Repeat([][]uint64{make([]uint64, width)}, 250),
			"of few":                              slices.Repeat(some(width, 3), 150),
			"the highest":                         slices.Repeat([][]uint64{slices.Repeat([]uint64{api.MaxNum - 1}, width), make([]uint64, width)}, 100),
			"whose last numbers alone are unlike": last,
		} {
			falling := inOrder(l)
			slices.Reverse(falling)
			d := with(t, 2000, file{"a", width, l}, file{"f", width, falling}, file{"s", width, inOrder(l)})
			isDone(t, sortOp(), "records "+what, d, api.MinBudget, "a")
			isDone(t, sortOp(), "records the other way round from those "+what, d, 41, "f")
			for _, o := range mayDo(file{"s", width, inOrder(l)}) {
				isDone(t, o, "records "+what, d, api.MinBudget, "s")
			}
		}
	}
}

// 11.5: names rise by one at most, from 1 on, and are alike just where the records are.
func TestNames(t *testing.T) {
	for _, many := range []int{1, 2, 30, 700} {
		d := with(t, 2000, file{"a", 2, inOrder(some(2, many))})
		got, names, _, e := sort.Rank(d, api.MinBudget, "a", "to")
		l := read(t, got, "to").records
		if e != api.OK || len(l) != many || l[0][0] != 1 || l[many-1][0] != names {
			t.Fatalf("error %d; %d names of %d records: %v", e, names, many, l)
		}
		for i := 1; i < many; i++ {
			step := uint64(1)
			if slices.Equal(l[i-1][1:], l[i][1:]) {
				step = 0
			}
			if l[i][0] != l[i-1][0]+step {
				t.Fatalf("behind %v stands %v", l[i-1], l[i])
			}
		}
	}
}

// 11.1, 11.2, chapter 7, words: where writes wait, what is seen is read, and all that waits is synced.
func TestWaits(t *testing.T) {
	for _, many := range []int{0, api.MaxWaits - 1, api.MaxWaits} {
		d := changed(busy(t), func(d *api.Disk) {
			more := slices.Repeat([]api.Write{{Name: "raw", Data: all("?")}}, max(0, many-len(d.Waits)))
			d.Waits = append(more, d.Waits...)
		})
		for _, from := range []string{"a", "b", "c", "n", "s", "w", "~"} {
			for _, o := range mayDo(read(t, d, from)) {
				isDone(t, o, "where writes wait: "+from, d, api.MinBudget, from)
				isDone(t, o, "where writes wait: "+from, d, 77, from)
			}
		}
	}
}

// 11.1, 11.2, chapter 7, words: what is behind a body is not asked, and is not in the new file.
func TestBehind(t *testing.T) {
	d := with(t, 40, file{"a", 1, inOrder(some(1, 14))})
	for at := api.SectorSize + 5*14; at < 3*api.SectorSize; at += 7 {
		d = turned(d, "a", at)
	}
	if _, _, e := recs.Read(d, "a"); e != api.ErrCode {
		t.Fatalf("what is behind a body that is not 0: error %d", e)
	}
	for _, o := range ops() {
		isDone(t, o, "where there is something behind the body", d, api.MinBudget, "a")
	}
}

// 11.1, words: names that others have, whatever they are, are not those of files on the way.
func TestTilde(t *testing.T) {
	names := []string{"~", "~~", "~0", "~1", "~9", "~0000", "~00000", "~10000", "~100000000", "~1000000001", "~10001", "~10002x", "~10003\x00", "~10004" + longest[6:], "~10006", "~99999", "~m", "~sort"}
	d := with(t, 900, file{"a", 8, some(8, 476)})
	for _, name := range names {
		d = put(d, file{name, 1, some(1, 3)})
	}
	for i := range 300 {
		d = put(d, file{"~" + strconv.Itoa(10010+i), 1, nil})
	}
	d.Size += used(d)
	isDone(t, sortOp(), "where there are names with a tilde", d, api.MinBudget, "a")
	isDone(t, sortOp(), "of a name with a tilde", d, api.MinBudget, "~10004"+longest[6:])
	for _, to := range []string{"~10005", "~1000500000", "~10007", "~2", "~100000000~", "~1000x"} {
		got, c, e := sort.Sort(d, api.MinBudget, "a", to)
		want := put(d, file{to, 8, inOrder(some(8, 476))})
		if e != api.OK || !alike(got, want) || c.Writes == 0 {
			t.Fatalf("Sort to %q: error %d, a cost of %+v", to, e, c)
		}
	}
}

// onTheWay are the names that have come, beside the new file's, when there is power for so many writes, and whether all is done.
func onTheWay(t *testing.T, d api.Disk, fuse int, to string) ([]string, bool) {
	t.Helper()
	got, _, e := sort.Sort(changed(d, func(d *api.Disk) { d.Fuse = fuse }), api.MinBudget, "a", to)
	names := []string{}
	for _, x := range got.Extents {
		if !slices.ContainsFunc(d.Extents, func(was api.Extent) bool { return was.Name == x.Name }) {
			names = append(names, x.Name)
		}
	}
	f := read(t, d, "a")
	if many := used(got) - used(d); many > 4*sectors(f)+16 {
		t.Fatalf("with power for %d writes: %d sectors have come, of a file of %d", fuse, many, sectors(f))
	}
	if slices.Contains(names, to) != (e == api.OK) {
		t.Fatalf("with power for %d writes: error %d; there are %q", fuse, e, names)
	}
	return slices.DeleteFunc(names, func(name string) bool { return name == to }), e == api.OK
}

// 11.1, words: as long as it is at work, other files have names that begin with a tilde, none of them the new one's, be that a name that they would have else; in the end they are no more.
func TestOnTheWay(t *testing.T) {
	d, seen := with(t, 1100, file{"a", 8, some(8, 476)}), []string{}
	done := false
	for fuse := 0; !done; fuse += 9 {
		var names []string
		names, done = onTheWay(t, d, fuse, "to")
		if done && len(names) > 0 {
			t.Fatalf("in the end there are %q", names)
		}
		seen = append(seen, names...)
	}
	slices.Sort(seen)
	seen = slices.Compact(seen)
	if len(seen) < 20 || slices.ContainsFunc(seen, func(name string) bool { return name[0] != '~' }) {
		t.Fatalf("on the way there are %q", seen)
	}
	for _, to := range []string{seen[0], seen[1], seen[18], seen[len(seen)-1]} {
		for fuse := range 30 {
			onTheWay(t, d, 31*fuse, to)
		}
		onTheWay(t, d, -1, to)
	}
}

// wrongBudgets are budgets that are wrong, and what is told of them.
var wrongBudgets = []struct {
	budget int
	want   api.Errno
}{
	{api.MinBudget - 1, api.ErrBudget}, {8, api.ErrBudget}, {1, api.ErrBudget}, {0, api.ErrBudget}, {-1, api.ErrBudget}, {math.MinInt, api.ErrBudget},
	{api.MaxFrames + 1, api.ErrRange}, {1 << 20, api.ErrRange}, {math.MaxInt, api.ErrRange},
}

// 11.1, 11.2: a disk that is not right comes ahead of one without power, that of a budget, and that of all others.
func TestBudget(t *testing.T) {
	d := busy(t)
	bad := changed(d, func(d *api.Disk) { d.Size, d.Down = 1, true })
	down := changed(d, func(d *api.Disk) { d.Down, d.Fuse = true, 0 })
	for _, o := range ops() {
		for _, from := range []string{"a", "b", "n", "w", "none", "raw", ""} {
			for _, to := range []string{"to", "", "a"} {
				for _, budget := range []int{api.MinBudget, api.MaxFrames, api.MinBudget - 1, api.MaxFrames + 1, 0} {
					isRefused(t, o, "a disk that is not right", bad, budget, from, to, api.ErrForm)
					isRefused(t, o, "a disk without power", down, budget, from, to, api.ErrPower)
				}
				for _, l := range wrongBudgets {
					isRefused(t, o, "a budget of "+strconv.Itoa(l.budget), d, l.budget, from, to, l.want)
				}
			}
		}
	}
}

// turned is a disk with a byte of an extent that is another.
func turned(d api.Disk, name string, at int) api.Disk {
	return changed(d, func(d *api.Disk) {
		i := slices.IndexFunc(d.Extents, func(x api.Extent) bool { return x.Name == name })
		data := []byte(d.Extents[i].Data)
		data[at] ^= 1
		d.Extents[i].Data = string(data)
	})
}

// 11.1, 11.2: the error of the file's records comes ahead of all that is wrong with their width and order, and of the new file's errors.
func TestRecordsWrong(t *testing.T) {
	d := with(t, 40, file{"a", 1, some(1, 3)}, file{"f", 8, some(8, 3)})
	gone, _ := disk.Free(d, "f")
	text, _ := recs.WriteText(gone, "f", "xyz")
	empty, _ := recs.WriteText(gone, "f", "")
	raw, _ := disk.New(gone, "f", 2)
	waits, _ := disk.Write(d, "f", 0, all("\x00"))
	for _, l := range []struct {
		what string
		d    api.Disk
		want api.Errno
	}{
		{"no such file", gone, api.ErrNone},
		{"a file of bytes", text, api.ErrCode},
		{"a file of no bytes", empty, api.ErrCode},
		{"no head", raw, api.ErrForm},
		{"no head, once what waits is done", waits, api.ErrForm},
		{"no mark", turned(d, "f", 0), api.ErrForm},
		{"another width", turned(d, "f", 2), api.ErrForm},
		{"another count", turned(d, "f", 7), api.ErrSum},
		{"another sum", turned(d, "f", 9), api.ErrSum},
		{"another end of the head", turned(d, "f", 63), api.ErrForm},
		{"a sector too many", changed(d, func(d *api.Disk) { d.Extents[1].Data += all("\x00") }), api.ErrForm},
		{"a sector too few", changed(d, func(d *api.Disk) { d.Extents[1].Data = d.Extents[1].Data[api.SectorSize:] }), api.ErrForm},
	} {
		for _, o := range ops() {
			for _, to := range []string{"to", "", longest + "n", "a", "f"} {
				isRefused(t, o, l.what, l.d, api.MinBudget, "f", to, l.want)
				isRefused(t, o, l.what+", and no room", roomy(l.d, 0), api.MaxFrames, "f", to, l.want)
			}
			for _, from := range []string{"", longest, longest + "n"} {
				isRefused(t, o, "no such file", l.d, api.MinBudget, from, "to", api.ErrNone)
			}
		}
	}
}

// 11.2: of a file of MaxWidth there are no ranks, be it sorted or not: this comes ahead of the new file's errors.
func TestWidthWrong(t *testing.T) {
	d := with(t, 40, file{"a", 8, some(8, 9)}, file{"n", 8, nil}, file{"s", 8, inOrder(some(8, 9))})
	for _, from := range []string{"a", "n", "s"} {
		for _, to := range []string{"to", "", longest + "n", "a", "raw"} {
			isRefused(t, rankOp(), "MaxWidth", d, api.MinBudget, from, to, api.ErrRange)
			isRefused(t, rankOp(), "MaxWidth, and no room", roomy(d, 0), api.MinBudget, from, to, api.ErrRange)
		}
	}
}

// 11.1, 11.2: the new file's errors, in their order. That a file is not sorted comes ahead of them in Unique, and behind them in Rank.
func TestNewWrong(t *testing.T) {
	d := with(t, 400, file{"a", 1, some(1, 300)}, file{"b", 7, some(7, 40)}, file{"n", 2, nil}, file{"s", 3, inOrder(some(3, 90))}, file{"u", 1, [][]uint64{{1}, {0}}})
	for _, o := range ops() {
		for _, from := range []string{"a", "b", "n", "s", "u"} {
			want := func(e api.Errno) api.Errno {
				if o.what == "Unique" && unsorted(read(t, d, from)) != api.OK {
					return api.ErrOrder
				}
				return e
			}
			for _, d := range []api.Disk{d, roomy(d, 0)} {
				isRefused(t, o, "no name", d, api.MinBudget, from, "", want(api.ErrRange))
				isRefused(t, o, "a name that is too long", d, api.MinBudget, from, longest+"n", want(api.ErrRange))
				for _, to := range []string{"a", "b", "n", "raw", "s", "u"} {
					isRefused(t, o, "a name that is there", d, api.MinBudget, from, to, want(api.ErrTwice))
				}
			}
			isRefused(t, o, "no room", roomy(d, 0), api.MinBudget, from, "to", want(api.ErrFull))
			got, _, _, e := o.do(d, api.MinBudget, from, longest)
			if e != o.ask(read(t, d, from)) || (e == api.OK) == alike(got, d) {
				t.Fatalf("%s of %s to the longest name: error %d", o.what, from, e)
			}
		}
	}
}

// 11.1, 11.2, words: just as much room as is needed, and a sector less.
func TestRoom(t *testing.T) {
	for _, budget := range []int{api.MinBudget, 31, api.MaxFrames} {
		for _, width := range []int{1, 3, 7, 8} {
			size, _ := runs.Size(api.MinBudget, width)
			for _, many := range []int{0, 1, 13, size, size + 1, 3 * size, 19*size + 1} {
				f := file{"a", width, inOrder(some(width, many))}
				d := with(t, 0, f)
				for _, o := range mayDo(f) {
					made, _ := o.want(f)
					need := o.room(budget, f, made)
					isDone(t, o, "with just as much room", roomy(d, need), budget, "a")
					isRefused(t, o, "with a sector less", roomy(d, need-1), budget, "a", "to", api.ErrFull)
					isRefused(t, o, "with no room for the new file", roomy(d, sectors(made)-1), budget, "a", "to", api.ErrFull)
					if most := 4*sectors(f) + 16; need > most {
						t.Fatalf("%s of %d records of width %d, under %d: %d sectors, where there should be at most %d", o.what, many, width, budget, need, most)
					}
				}
			}
		}
	}
}

// faulty are records of a width, in order but for those from a place on.
func faulty(width, many, place int) [][]uint64 {
	l := [][]uint64{}
	for i := range uint64(many) {
		l = append(l, append(make([]uint64, width-1), i/3+5))
	}
	for i := place; i < many; i++ {
		l[i][width-1] = 1
	}
	return l
}

// 11.1, 11.2: wherever it is that a file is not sorted, there is no file of it, however much power there is.
func TestOrderWrong(t *testing.T) {
	for _, width := range []int{1, 3, 7} {
		for _, place := range []int{1, 2, 3, 12, 13, 14, 58, 59} {
			d := with(t, 150, file{"f", width, faulty(width, 60, place)})
			d, _ = disk.Write(d, "raw", 1, all("w"))
			for _, o := range []op{uniqueOp(), rankOp()} {
				for _, fuse := range []int{-1, 0, 1, 2, 5, 100} {
					isRefused(t, o, "not sorted", changed(d, func(d *api.Disk) { d.Fuse = fuse }), api.MinBudget, "f", "to", api.ErrOrder)
				}
			}
			isDone(t, sortOp(), "what is not sorted", d, api.MinBudget, "f")
		}
	}
	d := with(t, 40, file{"f", 2, [][]uint64{{1, 1}, {1, 1}, {1, 2}, {2, 0}, {1, 9}}}, file{"g", 7, [][]uint64{{7, 7, 7, 7, 7, 7, 7}, {7, 7, 7, 7, 7, 7, 6}}})
	for _, o := range []op{uniqueOp(), rankOp()} {
		isRefused(t, o, "less by its first number", d, api.MaxFrames, "f", "to", api.ErrOrder)
		isRefused(t, o, "less by its last number alone", d, api.MaxFrames, "g", "to", api.ErrOrder)
	}
}

// 11.1, 11.2, chapter 7, words: errors are told ahead of all that is done: however much power there is, the disk is as it was.
func TestRefusedPower(t *testing.T) {
	d := with(t, 0, file{"a", 8, some(8, 60)}, file{"s", 7, inOrder(some(7, 60))})
	for fuse := range 60 {
		d := changed(roomy(d, sectors(read(t, d, "a"))+20), func(d *api.Disk) { d.Fuse = fuse })
		isRefused(t, sortOp(), "no room on the way", d, api.MinBudget, "a", "to", api.ErrFull)
		for _, o := range ops() {
			isRefused(t, o, "a name that is there", d, api.MinBudget, "s", "raw", api.ErrTwice)
			isRefused(t, o, "no name", d, api.MinBudget, "s", "", api.ErrRange)
			isRefused(t, o, "no such file", d, api.MinBudget, "none", "to", api.ErrNone)
			isRefused(t, o, "no room", roomy(d, 1), api.MinBudget, "s", "to", api.ErrFull)
		}
	}
}

// keeps are some of what may be kept of so many writes: none, all, each one alone, all but each, and others.
func keeps(n int) [][]bool {
	l := [][]bool{nil, slices.Repeat([]bool{true}, n)}
	r := rand.New(rand.NewPCG(11, uint64(n)))
	for i := range n {
		one, but, any := make([]bool, n), slices.Repeat([]bool{true}, n), make([]bool, n)
		one[i], but[i] = true, false
		for j := range any {
			any[j] = r.IntN(2) == 0
		}
		l = append(l, one, but, any)
	}
	return l
}

// isCrashed holds what is behind a crash against what may be: the new file is whole, or has no head, or is not there; the others are as they were, but for those whose names begin with a tilde. It tells whether the file is whole.
func isCrashed(t *testing.T, what string, d api.Disk, keep []bool, whole, without api.Disk) bool {
	t.Helper()
	crashed, e := disk.Crash(d, keep...)
	if e != api.OK {
		t.Fatalf("%s: Crash: error %d", what, e)
	}
	isNew := func(x api.Extent) bool { return x.Name[0] == '~' && x.Name != "~" }
	crashed.Extents = slices.DeleteFunc(crashed.Extents, isNew)
	if alike(crashed, whole) {
		return true
	}
	_, _, e = recs.Head(crashed, "to")
	if e == api.ErrForm {
		crashed, _ = disk.Free(crashed, "to")
	} else if e != api.ErrNone {
		t.Fatalf("%s: behind the crash: error %d", what, e)
	}
	if !alike(crashed, without) {
		t.Fatalf("%s: behind the crash: %v\nas it should be:\n%v", what, crashed, without)
	}
	return false
}

// isPowerless has an operation be done with power for so many writes; with an error the disk is as it is then. It tells whether all was done.
func isPowerless(t *testing.T, o op, d api.Disk, fuse int, from string, whole api.Disk) (api.Disk, api.Cost, bool) {
	t.Helper()
	got, n, c, e := o.do(changed(d, func(d *api.Disk) { d.Fuse = fuse }), api.MinBudget, from, "to")
	if most := most(o, api.MinBudget, read(t, d, from)); c.Reads+c.Writes > most || c.Frames < 1 || c.Frames > api.MinBudget {
		t.Fatalf("%s of %s, with power for %d writes: a cost of %+v, and at most %d", o.what, from, fuse, c, most)
	}
	if e == api.OK {
		if want := changed(whole, func(d *api.Disk) { d.Fuse = got.Fuse }); !alike(got, want) || got.Fuse < 0 || c.Writes != uint64(fuse-got.Fuse) {
			t.Fatalf("%s of %s, with power for %d writes: a cost of %+v, %v\nas it should be:\n%v", o.what, from, fuse, c, got, want)
		}
		return got, c, true
	}
	if e != api.ErrPower || n != 0 || !got.Down || disk.Check(got) != api.OK || c.Writes != uint64(fuse+1) {
		t.Fatalf("%s of %s, with power for %d writes: error %d, %d, a cost of %+v, %v", o.what, from, fuse, e, n, c, got)
	}
	return got, c, false
}

// 11.1, 11.2, chapter 7, words: wherever the power goes, the error is told beside the disk as it is then, and what it cost so far; behind the crash the new file is whole, or has no head, or is not there. Done again, it comes to what it would have been.
func TestPower(t *testing.T) {
	for _, from := range []string{"a", "b", "c", "n", "w"} {
		for _, o := range mayDo(read(t, busy(t), from)) {
			without := synced(busy(t))
			made, _ := o.want(read(t, busy(t), from))
			whole, wholes, done, last := put(without, made), 0, false, api.Cost{}
			for fuse := 0; !done; fuse++ {
				var got api.Disk
				var c api.Cost
				got, c, done = isPowerless(t, o, busy(t), fuse, from, whole)
				if c.Reads < last.Reads || c.Writes < last.Writes {
					t.Fatalf("%s of %s, with power for %d writes: a cost of %+v, for one less of %+v", o.what, from, fuse, c, last)
				}
				last = c
				for _, keep := range keeps(len(got.Waits)) {
					if isCrashed(t, o.what, changed(got, func(d *api.Disk) { d.Fuse = -1 }), keep, whole, without) {
						wholes++
						continue
					}
					crashed, _ := disk.Crash(got, keep...)
					if _, is := slices.BinarySearchFunc(crashed.Extents, "to", func(x api.Extent, s string) int { return strings.Compare(x.Name, s) }); is {
						crashed, _ = disk.Free(crashed, "to")
					}
					isDone(t, o, "behind a crash", roomy(crashed, 300), api.MinBudget, from)
				}
			}
			if wholes == 0 {
				t.Fatalf("%s of %s: the file is never whole behind a crash", o.what, from)
			}
		}
	}
}

// 11.1: where files are merged pass by pass, the power may go at any write.
func TestPowerPasses(t *testing.T) {
	d := with(t, 1100, file{"a", 8, some(8, 476)})
	whole := put(d, file{"to", 8, inOrder(some(8, 476))})
	done := false
	for fuse := 0; !done; fuse += 4 + fuse%3 {
		var got api.Disk
		got, _, done = isPowerless(t, sortOp(), d, fuse, "a", whole)
		if !done && isCrashed(t, "Sort", got, slices.Repeat([]bool{fuse%2 == 0}, len(got.Waits)), whole, d) {
			t.Fatalf("with power for %d writes the file is there", fuse)
		}
	}
}

// texts are all a disk's, by where they lie; the empty one lies nowhere.
func texts(d api.Disk) map[*byte]int {
	of := map[*byte]int{}
	for _, x := range d.Extents {
		of[unsafe.StringData(x.Name)]++
		of[unsafe.StringData(x.Data)]++
	}
	for _, one := range d.Waits {
		of[unsafe.StringData(one.Name)]++
		of[unsafe.StringData(one.Data)]++
	}
	return of
}

// shares tells whether two disks share a list or a text.
func shares(a, b api.Disk) bool {
	of := texts(a)
	for text := range texts(b) {
		if of[text] > 0 {
			return true
		}
	}
	return len(a.Extents)*len(b.Extents) > 0 && &a.Extents[0] == &b.Extents[0] || len(a.Waits)*len(b.Waits) > 0 && &a.Waits[0] == &b.Waits[0]
}

// 11.3: what each call, refused or not, answers is its own, and what was handed in is as it was.
func TestNewMemory(t *testing.T) {
	for _, by := range []func(d *api.Disk){func(*api.Disk) {}, func(d *api.Disk) { d.Fuse = 0 }, func(d *api.Disk) { d.Fuse = 20 }, func(d *api.Disk) { d.Down = true }} {
		for _, from := range []string{"a", "b", "c", "n", "w", "none"} {
			for _, budget := range []int{api.MinBudget, api.MaxFrames, 1} {
				for _, o := range ops() {
					d, to := changed(busy(t), by), strings.Repeat("t", 2)
					got, _, _, _ := o.do(d, budget, from, to)
					again, _, _, _ := o.do(d, budget, from, to)
					if shares(got, d) || shares(got, again) || texts(got)[unsafe.StringData(to)] > 0 {
						t.Fatalf("%s of %s: what is answered is no new memory", o.what, from)
					}
					clear(got.Extents)
					clear(got.Waits)
					if next, _, _, _ := o.do(d, budget, from, to); !alike(next, again) || !alike(d, changed(busy(t), by)) {
						t.Fatalf("%s of %s: what was answered, or handed in, is kept", o.what, from)
					}
				}
			}
		}
	}
}

// P1, P3, P4: whatever is handed in, each call answers the same twice, and leaves no goroutine.
func TestWhatever(t *testing.T) {
	before := runtime.NumGoroutine()
	d := busy(t)
	wild := api.Disk{Extents: []api.Extent{{Name: "~2"}, {Name: "~10000"}, {}, {Name: "~1"}}, Waits: []api.Write{{Name: "~1", Sector: -1}}}
	disks := []api.Disk{{}, {Size: -1}, {Size: 3, Fuse: -1}, wild, d, changed(d, func(d *api.Disk) { d.Waits = nil }), changed(d, func(d *api.Disk) { d.Fuse = 2 }), changed(d, func(d *api.Disk) { d.Down = true })}
	r := rand.New(rand.NewPCG(11, 11))
	for range 60 {
		one := turned(d, "w", r.IntN(api.SectorSize+20))
		disks = append(disks, changed(one, func(d *api.Disk) { d.Fuse, d.Size = r.IntN(60)-2, d.Size-r.IntN(300) }))
	}
	names := []string{"", "a", "b", "c", "n", "s", "raw", "none", "w", "~", "~10000", longest + "n"}
	for _, d := range disks {
		for range 30 {
			from, to := names[r.IntN(len(names))], names[r.IntN(len(names))]
			budget := []int{-1, 0, api.MinBudget - 1, api.MinBudget, api.MinBudget, 99, api.MaxFrames, api.MaxFrames + 1}[r.IntN(8)]
			for _, o := range ops() {
				one, n, c, e := o.do(d, budget, from, to)
				other, m, g, f := o.do(d, budget, from, to)
				if !alike(one, other) || n != m || c != g || e != f {
					t.Fatalf("%s: error %d, and then %d", o.what, e, f)
				}
				if e != api.OK && (n != 0 || e != api.ErrPower && c != api.Cost{}) {
					t.Fatalf("%s: error %d beside %d, and a cost of %+v", o.what, e, n, c)
				}
			}
		}
	}
	if after := runtime.NumGoroutine(); after > before {
		t.Errorf("%d goroutines, where %d were", after, before)
	}
}
