package names_test

import (
	"math"
	"math/rand/v2"
	"runtime"
	"slices"
	"sort"
	"strconv"
	"strings"
	"testing"
	"unsafe"

	"wringer/api"
	"wringer/crc"
	"wringer/disk"
	"wringer/merge"
	"wringer/names"
	"wringer/num"
	"wringer/recs"
	"wringer/runs"
	"wringer/skew"
)

// longest is a name of MaxName bytes.
var longest = strings.Repeat("n", api.MaxName)

// all is a sector that has nothing but c.
func all(c string) string { return strings.Repeat(c, api.SectorSize) }

// some makes a list of so many numbers, from 1 to one that is told, the same at each run.
func some(many int, highest uint64) []uint64 {
	r := rand.New(rand.NewPCG(uint64(many), highest))
	l := make([]uint64, many)
	for i := range l {
		l[i] = 1 + r.Uint64N(highest)
	}
	return l
}

// repeated makes a list of so many numbers, of some that come again and again.
func repeated(many int, l ...uint64) []uint64 {
	return slices.Repeat(l, many/len(l)+1)[:many]
}

// rising makes a list of so many numbers, from one on.
func rising(from uint64, many int) []uint64 {
	l := make([]uint64, many)
	for i := range l {
		l[i] = from + uint64(i)
	}
	return l
}

// shapes are lists of so many numbers.
func shapes(many int) map[string][]uint64 {
	falling := rising(1, many)
	slices.Reverse(falling)
	return map[string][]uint64{
		"all 1":                 repeated(many, 1),
		"all the highest":       repeated(many, api.MaxNum-1),
		"rising":                rising(1, many),
		"falling":               falling,
		"rising to the highest": rising(api.MaxNum-uint64(many), many),
		"three in turns":        repeated(many, 2, 1, 1),
		"four in turns":         repeated(many, 2, 1, 1, 1),
		"any of two":            some(many, 2),
		"any":                   some(many, api.MaxNum-1),
	}
}

// file is a file of records that is to be on a disk.
type file struct {
	name    string
	width   int
	records [][]uint64
}

// list is the file of a list.
func list(name string, l []uint64) file {
	return file{name, 1, slices.Collect(slices.Chunk(slices.Clone(l), 1))}
}

// body is a file's extent, by the words of chapter 6.
func body(f file) api.Extent {
	many, _ := num.Put(uint64(len(f.records)))
	head, _ := crc.Frame("WR" + string([]byte{byte(f.width)}) + many)
	data := new(strings.Builder)
	data.WriteString(head + all("\x00")[len(head):])
	for _, one := range f.records {
		record, _ := num.Record(one...)
		data.WriteString(record)
	}
	data.WriteString(strings.Repeat("\x00", (api.SectorSize-data.Len()%api.SectorSize)%api.SectorSize))
	return api.Extent{Name: f.name, Data: data.String()}
}

// sectors are how many sectors a file of so many records has.
func sectors(width, many int) int { return 1 + (5*width*many+api.SectorSize-1)/api.SectorSize }

// used are how many sectors of a disk are in extents.
func used(d api.Disk) int {
	many := 0
	for _, x := range d.Extents {
		many += len(x.Data) / api.SectorSize
	}
	return many
}

// changed is a disk with something done to it by hand.
func changed(d api.Disk, by func(d *api.Disk)) api.Disk {
	d.Extents, d.Waits = slices.Clone(d.Extents), slices.Clone(d.Waits)
	by(&d)
	return d
}

// put is a disk with a file more, whatever room there is.
func put(d api.Disk, f file) api.Disk {
	return changed(d, func(d *api.Disk) {
		d.Extents = append(d.Extents, body(f))
		slices.SortFunc(d.Extents, func(a, b api.Extent) int { return strings.Compare(a.Name, b.Name) })
	})
}

// roomy is a disk with so much room.
func roomy(d api.Disk, room int) api.Disk {
	return changed(d, func(d *api.Disk) { d.Size = used(*d) + room })
}

// with is a disk with these files, an extent that is no file, and some room.
func with(t *testing.T, room int, files ...file) api.Disk {
	t.Helper()
	d := api.Disk{Extents: []api.Extent{{Name: "raw", Data: all("1") + all("2")}}, Fuse: -1}
	for _, f := range files {
		d = put(d, f)
	}
	d = roomy(d, room)
	if e := disk.Check(d); e != api.OK {
		t.Fatalf("a disk with files: error %d", e)
	}
	return d
}

// busy is a disk with some lists, of which w has a 0 in it until what waits is done.
func busy(t *testing.T) api.Disk {
	t.Helper()
	d := with(t, 400, list("a", some(30, 2)), list("b", some(80, 3)), list("n", nil), list("o", []uint64{7}), list("w", some(17, 2)), list("~", some(9, 4)))
	was, _ := disk.Read(d, "w", 2)
	d, _ = disk.Write(d, "raw", 1, all("w"))
	d, _ = disk.Write(d, "w", 2, was)
	return changed(d, func(d *api.Disk) {
		at := slices.IndexFunc(d.Extents, func(x api.Extent) bool { return x.Name == "w" })
		d.Extents[at].Data = d.Extents[at].Data[:2*api.SectorSize] + all("\x00")
	})
}

// synced is a disk with all done that waited.
func synced(d api.Disk) api.Disk {
	d, _ = disk.Sync(d)
	return d
}

// alike holds two disks against each other; nil and empty lists are alike.
func alike(a, b api.Disk) bool {
	return a.Size == b.Size && a.Fuse == b.Fuse && a.Down == b.Down && slices.Equal(a.Extents, b.Extents) && slices.Equal(a.Waits, b.Waits)
}

// read is the list of a file; what is behind its body may be anything.
func read(t *testing.T, d api.Disk, name string) []uint64 {
	t.Helper()
	d = synced(d)
	width, count, e := recs.Head(d, name)
	if e != api.OK || width != 1 {
		t.Fatalf("%s: error %d, a width of %d", name, e, width)
	}
	at := slices.IndexFunc(d.Extents, func(x api.Extent) bool { return x.Name == name })
	l, e := num.Split(d.Extents[at].Data[api.SectorSize:][:5*count], 1)
	if e != api.OK {
		t.Fatalf("%s: error %d", name, e)
	}
	return slices.Concat(l...)
}

// isSample tells whether a place is one of the samples of a list of so many, by the words of chapter 13.
func isSample(place, many int) bool {
	return place < many && place%3 > 0 || place == many && many%3 == 1
}

// samples are those of a list of so many, as they stand.
func samples(many int) []int {
	out := []int{}
	for rest := 1; rest <= 2; rest++ {
		for place := rest; place <= many; place += 3 {
			if isSample(place, many) {
				out = append(out, place)
			}
		}
	}
	return out
}

// triples are those of a list's samples, as they stand.
func triples(l []uint64) [][]uint64 {
	padded, out := append(slices.Clone(l), 0, 0, 0), [][]uint64{}
	for _, place := range samples(len(l)) {
		out = append(out, padded[place:place+3:place+3])
	}
	return out
}

// op is one of the package's calls, and what it should make of a list, and tell.
type op struct {
	what string
	do   func(d api.Disk, budget int, from, to string) (api.Disk, uint64, api.Cost, api.Errno)
	want func(l []uint64) (file, uint64)
	room func(budget, samples int) int // how much of it is needed
	most func(budget, many int) int    // what it may cost
}

// triplesOp is Triples.
func triplesOp() op {
	return op{
		what: "Triples",
		do: func(d api.Disk, budget int, from, to string) (api.Disk, uint64, api.Cost, api.Errno) {
			d, c, e := names.Triples(d, budget, from, to)
			return d, 0, c, e
		},
		want: func(l []uint64) (file, uint64) {
			of, numbers, records := triples(l), make([]int, len(l)+1), [][]uint64{}
			for number, place := range samples(len(l)) {
				numbers[place] = number
			}
			for place, number := range numbers {
				if isSample(place, len(l)) {
					records = append(records, append(of[number], uint64(number)))
				}
			}
			return file{"to", 4, records}, 0
		},
		room: func(_, samples int) int { return sectors(4, samples) },
		most: func(_, many int) int { return 2*(sectors(1, many)+sectors(4, len(samples(many)))) + 8 },
	}
}

// reduceOp is Reduce.
func reduceOp() op {
	return op{
		what: "Reduce",
		do:   names.Reduce,
		want: func(l []uint64) (file, uint64) {
			known := slices.SortedFunc(slices.Values(triples(l)), slices.Compare)
			known = slices.CompactFunc(known, slices.Equal)
			reduced := []uint64{}
			for _, t := range triples(l) {
				at, _ := slices.BinarySearchFunc(known, t, slices.Compare)
				reduced = append(reduced, uint64(at)+1)
			}
			return list("to", reduced), uint64(len(known))
		},
		room: func(budget, samples int) int { return sectors(4, samples) + sorted(budget, 4, samples) },
		most: func(budget, many int) int {
			few := len(samples(many))
			return 2*(sectors(1, many)+2*sectors(4, few)+2*sectors(2, few)+sectors(1, few)) + 32 + cost(budget, 4, few) + cost(budget, 2, few)
		},
	}
}

// sorted is how much room is needed on the way to a file that is sorted.
func sorted(budget, width, many int) int {
	size, _ := runs.Size(budget, width)
	if many <= size {
		return sectors(width, many)
	}
	room := sectors(width, many)
	for ; many > size; many -= size {
		room += sectors(width, size)
	}
	return room + sectors(width, many)
}

// cost is what sorting a file may cost: 11.4, of one pass more than there are, as there are those that have none.
func cost(budget, width, many int) int {
	files, _ := runs.Many(budget, width, uint64(many))
	passes, _ := merge.Passes(budget, files)
	return (8*sectors(width, many) + 40) * (passes + 1)
}

// ops are both.
func ops() []op { return []op{triplesOp(), reduceOp()} }

// isDone has an operation be done with a list, and nothing else.
func isDone(t *testing.T, o op, what string, d api.Disk, budget int, from string) {
	t.Helper()
	l := read(t, d, from)
	made, many := o.want(l)
	want := put(synced(d), made)
	got, n, c, e := o.do(d, budget, from, "to")
	if !alike(got, want) || n != many || e != api.OK {
		t.Fatalf("%s %s, under %d: error %d; %d, where it should be %d; %v\nas it should be:\n%v", o.what, what, budget, e, n, many, got, want)
	}
	if most := o.most(budget, len(l)); c.Reads+c.Writes > uint64(most) || c.Frames < 1 || c.Frames > budget {
		t.Fatalf("%s %s: a cost of %+v, of a budget of %d, and at most %d", o.what, what, c, budget, most)
	}
	if c.Reads < uint64(sectors(1, len(l))) || c.Writes < uint64(sectors(made.width, len(made.records))) {
		t.Fatalf("%s %s: a cost of %+v, of %d numbers", o.what, what, c, len(l))
	}
}

// isRefused has an operation tell an error, and the disk as it was: zero, if that is not right.
func isRefused(t *testing.T, o op, what string, d api.Disk, budget int, from, to string, want api.Errno) {
	t.Helper()
	was := d
	if disk.Check(d) != api.OK {
		was = api.Disk{}
	}
	got, n, c, e := o.do(d, budget, from, to)
	if !alike(got, was) || n != 0 || c != (api.Cost{}) || e != want {
		t.Fatalf("%s of %s to %q, %s: error %d, not %d; %d; a cost of %+v; %v\nas it was:\n%v", o.what, from, to, what, e, want, n, c, got, was)
	}
}

func TestExample(t *testing.T) {
	d := with(t, 20, list("a", []uint64{2, 1, 4, 1, 4, 1}))
	got, many, _, e := names.Reduce(d, api.MinBudget, "a", "to")
	if l := read(t, got, "to"); e != api.OK || many != 4 || !slices.Equal(l, []uint64{2, 3, 4, 1}) {
		t.Errorf("Reduce: error %d, %d, %v", e, many, l)
	}
	got, _, e = names.Triples(d, api.MinBudget, "a", "to")
	want := [][]uint64{{1, 4, 1, 0}, {4, 1, 4, 2}, {4, 1, 0, 1}, {1, 0, 0, 3}}
	if width, l, f := recs.Read(got, "to"); e != api.OK || f != api.OK || width != 4 || !slices.EqualFunc(l, want, slices.Equal[[]uint64]) {
		t.Errorf("Triples: error %d, and %d, %v", e, f, l)
	}
}

// 14.1: of all counts that there may be, and past them.
func TestNeed(t *testing.T) {
	// From as many to one more there come and go those places alone that are the last ones.
	want := uint64(0)
	for count := range api.MaxCount + 1 {
		if got, e := names.Need(uint64(count)); got != want || e != api.OK {
			t.Fatalf("Need of %d: error %d, %d, where it should be %d", count, e, got, want)
		}
		for place := count; place <= count+1; place++ {
			if isSample(place, count) {
				want--
			}
			if isSample(place, count+1) {
				want++
			}
		}
	}
	for _, count := range []uint64{api.MaxCount + 1, api.MaxCount + 2, 1 << 32, 1 << 63, math.MaxUint64} {
		if got, e := names.Need(count); got != 0 || e != api.ErrRange {
			t.Fatalf("Need of %d: error %d, %d", count, e, got)
		}
	}
}

// 14.1, 14.2, 14.4: lists of many sizes, be they divided by 3 or not, with numbers of many kinds.
func TestSizes(t *testing.T) {
	for _, budget := range []int{api.MinBudget, 100} {
		for _, many := range []int{0, 1, 2, 3, 4, 5, 6, 7, 8, 9, 10, 11, 12, 13, 14, 25, 26, 27, 39, 40, 41, 90, 180} {
			for what, l := range shapes(many) {
				d := with(t, 200, list("a", l))
				for _, o := range ops() {
					isDone(t, o, strconv.Itoa(many)+" numbers, "+what, d, budget, "a")
				}
			}
		}
	}
}

// 14.1, 14.2, 14.4: lists with as many samples as one run holds, or two, and one more or less, under budgets of all sizes.
func TestRuns(t *testing.T) {
	for _, budget := range []int{api.MinBudget, api.MinBudget + 1, 100, api.MaxFrames} {
		for _, width := range []int{4, 2} {
			size, _ := runs.Size(budget, width)
			for _, many := range []int{size * 3 / 2, size * 3} {
				for more := -2; more <= 3; more++ {
					d := with(t, 4000, list("a", some(many+more, 9)))
					for _, o := range ops() {
						isDone(t, o, strconv.Itoa(many+more)+" numbers", d, budget, "a")
					}
				}
			}
		}
	}
}

// 14.2, 14.4: as many runs as the fan-in, and one more.
func TestPasses(t *testing.T) {
	for _, l := range []struct{ many, runs, passes int }{{1377, 18, 1}, {1379, 19, 2}} {
		files, _ := runs.Many(api.MinBudget, 4, uint64(len(samples(l.many))))
		if passes, _ := merge.Passes(api.MinBudget, files); files != l.runs || passes != l.passes {
			t.Fatalf("%d runs, %d passes", files, passes)
		}
		d := with(t, 2000, list("a", some(l.many, 20)))
		for _, o := range ops() {
			isDone(t, o, strconv.Itoa(l.many)+" numbers", d, api.MinBudget, "a")
		}
	}
}

// 14.4: what comes of it is what is told of the list in memory, up to the longest one there.
func TestAsInMemory(t *testing.T) {
	for _, many := range []int{0, 1, 2, 3, 4, 5, 100, 101, 102, api.MaxPlain - 1, api.MaxPlain} {
		for what, l := range shapes(many) {
			d := with(t, 3000, list("a", l))
			want, unlike, _ := skew.Reduce(l)
			got, n, _, e := names.Reduce(d, api.MinBudget+many%99, "a", "to")
			if l := read(t, got, "to"); e != api.OK || n != uint64(unlike) || !slices.Equal(l, want) {
				t.Fatalf("Reduce of %d numbers, %s: error %d, %d, %v\nas it should be:\n%d, %v", many, what, e, n, l, unlike, want)
			}
		}
	}
}

// 14.1, 14.2: the longest lists with which there is room on any disk, and one more number; and as many numbers as a file may have, for which there is none.
func TestMost(t *testing.T) {
	for _, o := range ops() {
		for _, budget := range []int{api.MinBudget, api.MaxFrames} {
			isTooLong := func(many int) bool {
				return 2+sectors(1, many)+o.room(budget, len(samples(many))) > api.MaxSectors
			}
			many := sort.Search(api.MaxCount, isTooLong) - 1
			for _, more := range []int{1, api.MaxCount - many} {
				d := changed(with(t, 0, list("a", some(many+more, 40))), func(d *api.Disk) { d.Size = api.MaxSectors })
				isRefused(t, o, "a list that is too long", d, budget, "a", "to", api.ErrFull)
			}
			d := changed(with(t, 0, list("a", some(many, 40))), func(d *api.Disk) { d.Size = api.MaxSectors })
			isDone(t, o, strconv.Itoa(many)+" numbers", d, budget, "a")
		}
	}
}

// Chapter 14, words: there is never more room needed than is told, whatever the list and the budget.
func TestRoomTold(t *testing.T) {
	for _, budget := range []int{api.MinBudget, api.MinBudget + 1, 60, api.MaxFrames} {
		for many := 0; many <= api.MaxCount; many += 1 + many/99 {
			most := 24*sectors(1, many) + 64
			for _, o := range ops() {
				if need := o.room(budget, len(samples(many))); need > most {
					t.Fatalf("%s of %d numbers, under %d: %d sectors, where there should be at most %d", o.what, many, budget, need, most)
				}
			}
		}
	}
}

// 14.1, 14.2, chapter 7, words: where writes wait, what is seen is read, and all that waits is synced.
func TestWaits(t *testing.T) {
	for _, many := range []int{0, api.MaxWaits - 1, api.MaxWaits} {
		d := changed(busy(t), func(d *api.Disk) {
			more := slices.Repeat([]api.Write{{Name: "raw", Data: all("?")}}, max(0, many-len(d.Waits)))
			d.Waits = append(more, d.Waits...)
		})
		for _, from := range []string{"a", "b", "n", "o", "w", "~"} {
			for _, o := range ops() {
				isDone(t, o, "where writes wait: "+from, d, api.MinBudget, from)
				isDone(t, o, "where writes wait: "+from, d, 77, from)
			}
		}
	}
}

// turned is a disk with a byte of an extent that is another.
func turned(d api.Disk, name string, at int) api.Disk {
	return changed(d, func(d *api.Disk) {
		i := slices.IndexFunc(d.Extents, func(x api.Extent) bool { return x.Name == name })
		data := []byte(d.Extents[i].Data)
		data[at] ^= 1
		d.Extents[i].Data = string(data)
	})
}

// 14.1, 14.2, chapter 7, words: what is behind a body is not asked.
func TestBehind(t *testing.T) {
	d := with(t, 40, list("a", some(14, 3)))
	for at := api.SectorSize + 5*14; at < 3*api.SectorSize; at += 7 {
		d = turned(d, "a", at)
	}
	if _, _, e := recs.Read(d, "a"); e != api.ErrCode {
		t.Fatalf("what is behind a body that is not 0: error %d", e)
	}
	for _, o := range ops() {
		isDone(t, o, "where there is something behind the body", d, api.MinBudget, "a")
	}
}

// 14.2, words: names that others have, whatever they are, are not those of files on the way.
func TestTilde(t *testing.T) {
	l := some(120, 4)
	d := with(t, 2000, list("a", l))
	for _, name := range []string{"~", "~~", "~0", "~1", "~10000", "~100000", "~100001", "~10001", "~10002x", "~10003\x00", "~10004" + longest[6:], "~99999", "~names"} {
		d = put(d, list(name, some(3, 3)))
	}
	for i := range 60 {
		d = put(d, list("~"+strconv.Itoa(10010+i), nil))
	}
	d = roomy(d, 2000)
	isDone(t, reduceOp(), "where there are names with a tilde", d, api.MinBudget, "a")
	isDone(t, reduceOp(), "of a name with a tilde", d, api.MinBudget, "~10004"+longest[6:])
	for _, to := range []string{"~10005", "~100050", "~100060", "~100070000", "~2", "~1000x", longest} {
		got, n, c, e := names.Reduce(d, api.MinBudget, "a", to)
		made, many := reduceOp().want(l)
		made.name = to
		if e != api.OK || n != many || !alike(got, put(d, made)) || c.Writes == 0 {
			t.Fatalf("Reduce to %q: error %d, %d, a cost of %+v", to, e, n, c)
		}
	}
}

// onTheWay are the names that have come, beside the new file's, when there is power for so many writes, and whether all is done.
func onTheWay(t *testing.T, d api.Disk, fuse int, to string) ([]string, bool) {
	t.Helper()
	got, _, _, e := names.Reduce(changed(d, func(d *api.Disk) { d.Fuse = fuse }), api.MinBudget, "a", to)
	come := []string{}
	for _, x := range got.Extents {
		if !slices.ContainsFunc(d.Extents, func(was api.Extent) bool { return was.Name == x.Name }) {
			come = append(come, x.Name)
		}
	}
	if need := reduceOp().room(api.MinBudget, len(samples(len(read(t, d, "a"))))); used(got)-used(d) > need {
		t.Fatalf("with power for %d writes: %d sectors have come, where there are to be %d", fuse, used(got)-used(d), need)
	}
	return slices.DeleteFunc(come, func(name string) bool { return name == to }), e == api.OK
}

// 14.2, words: as long as it is at work, other files have names that begin with a tilde, none of them the new one's, be that a name that they would have else; in the end they are no more.
func TestOnTheWay(t *testing.T) {
	d, seen := with(t, 300, list("a", some(240, 5))), []string{}
	done := false
	for fuse := 0; !done; fuse++ {
		var come []string
		come, done = onTheWay(t, d, fuse, "to")
		if done && len(come) > 0 {
			t.Fatalf("in the end there are %q", come)
		}
		seen = append(seen, come...)
	}
	slices.Sort(seen)
	seen = slices.Compact(seen)
	if len(seen) < 8 || slices.ContainsFunc(seen, func(name string) bool { return name[0] != '~' }) {
		t.Fatalf("on the way there are %q", seen)
	}
	for _, to := range seen {
		for fuse := range 20 {
			onTheWay(t, d, 17*fuse, to)
		}
		if come, done := onTheWay(t, d, -1, to); !done || len(come) > 0 {
			t.Fatalf("to %q: in the end there are %q", to, come)
		}
	}
}

// wrongBudgets are budgets that are wrong, and what is told of them.
var wrongBudgets = []struct {
	budget int
	want   api.Errno
}{
	{api.MinBudget - 1, api.ErrBudget}, {8, api.ErrBudget}, {1, api.ErrBudget}, {0, api.ErrBudget}, {-1, api.ErrBudget}, {math.MinInt, api.ErrBudget},
	{api.MaxFrames + 1, api.ErrRange}, {1 << 20, api.ErrRange}, {math.MaxInt, api.ErrRange},
}

// 14.1, 14.2: a disk that is not right comes ahead of one without power, that of a budget, and that of all others.
func TestBudget(t *testing.T) {
	d := put(busy(t), list("z", []uint64{0}))
	bad := changed(d, func(d *api.Disk) { d.Size, d.Down = 1, true })
	down := changed(d, func(d *api.Disk) { d.Down, d.Fuse = true, 0 })
	for _, o := range ops() {
		for _, from := range []string{"a", "n", "w", "z", "none", "raw", ""} {
			for _, to := range []string{"to", "", "a"} {
				for _, budget := range []int{api.MinBudget, api.MaxFrames, api.MinBudget - 1, api.MaxFrames + 1, 0} {
					isRefused(t, o, "a disk that is not right", bad, budget, from, to, api.ErrForm)
					isRefused(t, o, "a disk without power", down, budget, from, to, api.ErrPower)
				}
				for _, l := range wrongBudgets {
					isRefused(t, o, "a budget of "+strconv.Itoa(l.budget), d, l.budget, from, to, l.want)
				}
			}
		}
	}
}

// 14.1, 14.2: the error of the file's records comes ahead of that of its width and numbers, and of the new file's errors.
func TestRecordsWrong(t *testing.T) {
	d := with(t, 40, list("a", some(3, 3)), file{"f", 2, [][]uint64{{1, 0}, {0, 2}}})
	gone, _ := disk.Free(d, "f")
	text, _ := recs.WriteText(gone, "f", "xyz")
	empty, _ := recs.WriteText(gone, "f", "")
	raw, _ := disk.New(gone, "f", 2)
	waits, _ := disk.Write(d, "f", 0, all("\x00"))
	for _, l := range []struct {
		what string
		d    api.Disk
		want api.Errno
	}{
		{"no such file", gone, api.ErrNone},
		{"a file of bytes", text, api.ErrCode},
		{"a file of no bytes", empty, api.ErrCode},
		{"no head", raw, api.ErrForm},
		{"no head, once what waits is done", waits, api.ErrForm},
		{"no mark", turned(d, "f", 0), api.ErrForm},
		{"another width", turned(d, "f", 2), api.ErrSum},
		{"another count", turned(d, "f", 7), api.ErrSum},
		{"another sum", turned(d, "f", 9), api.ErrSum},
		{"another end of the head", turned(d, "f", 63), api.ErrForm},
		{"a sector too many", changed(d, func(d *api.Disk) { d.Extents[1].Data += all("\x00") }), api.ErrForm},
		{"a sector too few", changed(d, func(d *api.Disk) { d.Extents[1].Data = d.Extents[1].Data[api.SectorSize:] }), api.ErrForm},
	} {
		for _, o := range ops() {
			for _, to := range []string{"to", "", longest + "n", "a", "f"} {
				isRefused(t, o, l.what, l.d, api.MinBudget, "f", to, l.want)
				isRefused(t, o, l.what+", and no room", roomy(l.d, 0), api.MaxFrames, "f", to, l.want)
			}
			for _, from := range []string{"", longest, longest + "n"} {
				isRefused(t, o, "no such file", l.d, api.MinBudget, from, "to", api.ErrNone)
			}
		}
	}
}

// 14.1, 14.2: a file of another width than 1 is no list's: this comes ahead of the new file's errors, and of a number that is 0.
func TestWidthWrong(t *testing.T) {
	for width := 2; width <= api.MaxWidth; width++ {
		for _, records := range [][][]uint64{nil, {make([]uint64, width)}, {slices.Repeat([]uint64{1}, width), slices.Repeat([]uint64{2}, width)}} {
			d := with(t, 90, file{"f", width, records})
			for _, o := range ops() {
				for _, to := range []string{"to", "", longest + "n", "f", "raw"} {
					isRefused(t, o, "another width", d, api.MinBudget, "f", to, api.ErrRange)
					isRefused(t, o, "another width, and no room", roomy(d, 0), api.MinBudget, "f", to, api.ErrRange)
				}
			}
		}
	}
}

// 14.1, 14.2: the new file's errors, in their order; they come ahead of a number that is 0.
func TestNewWrong(t *testing.T) {
	d := with(t, 200, list("a", some(100, 3)), list("n", nil), list("o", []uint64{3}), list("z", []uint64{3, 0, 1}))
	for _, o := range ops() {
		for _, from := range []string{"a", "n", "o", "z"} {
			for _, d := range []api.Disk{d, roomy(d, 0)} {
				isRefused(t, o, "no name", d, api.MinBudget, from, "", api.ErrRange)
				isRefused(t, o, "a name that is too long", d, api.MinBudget, from, longest+"n", api.ErrRange)
				for _, to := range []string{"a", "n", "o", "raw", "z"} {
					isRefused(t, o, "a name that is there", d, api.MinBudget, from, to, api.ErrTwice)
				}
			}
			isRefused(t, o, "no room", roomy(d, 0), api.MinBudget, from, "to", api.ErrFull)
			few := len(samples(len(read(t, d, from))))
			made := map[string]int{"Triples": sectors(4, few), "Reduce": sectors(1, few)}[o.what]
			isRefused(t, o, "a sector less than the new file has", roomy(d, made-1), api.MinBudget, from, "to", api.ErrFull)
		}
	}
}

// 14.1, 14.2, words: just as much room as is needed, and a sector less.
func TestRoom(t *testing.T) {
	for _, budget := range []int{api.MinBudget, 31, api.MaxFrames} {
		size, _ := runs.Size(budget, 4)
		for _, many := range []int{0, 1, 2, 3, 4, 12, 13, 14, 60, size * 3 / 2, size*3/2 + 1, size*3/2 + 2, size*3/2 + 3, 400} {
			d := with(t, 0, list("a", some(many, 30)))
			for _, o := range ops() {
				need := o.room(budget, len(samples(many)))
				isDone(t, o, "with just as much room", roomy(d, need), budget, "a")
				isRefused(t, o, "with a sector less", roomy(d, need-1), budget, "a", "to", api.ErrFull)
			}
		}
	}
}

// 14.1, 14.2: wherever a number is 0, there is no file of the list, however much power there is.
func TestZero(t *testing.T) {
	for _, many := range []int{1, 2, 3, 4, 13, 40, 120} {
		for _, place := range []int{0, 1, 2, 11, 12, 13, many / 2, many - 3, many - 2, many - 1} {
			if place < 0 || place >= many {
				continue
			}
			l := some(many, 9)
			l[place] = 0
			d := with(t, 300, list("f", l))
			d, _ = disk.Write(d, "raw", 1, all("w"))
			for _, o := range ops() {
				for _, fuse := range []int{-1, 0, 1, 2, 5, 100} {
					isRefused(t, o, "a number that is 0", changed(d, func(d *api.Disk) { d.Fuse = fuse }), api.MinBudget, "f", "to", api.ErrCode)
				}
			}
			for budget := api.MinBudget; budget <= api.MaxFrames; budget += 58 {
				few := roomy(d, reduceOp().room(budget, len(samples(many)))-1)
				got, n, c, e := names.Reduce(few, budget, "f", "to")
				if e != api.ErrFull && e != api.ErrCode || n != 0 || c != (api.Cost{}) || !alike(got, few) {
					t.Fatalf("Reduce with a number that is 0, and no room: error %d, %d, a cost of %+v", e, n, c)
				}
			}
		}
	}
}

// 14.1, 14.2, chapter 7, words: errors are told ahead of all that is done: however much power there is, the disk is as it was.
func TestRefusedPower(t *testing.T) {
	d := with(t, 0, list("a", some(90, 5)))
	for fuse := range 60 {
		d := changed(roomy(d, 100), func(d *api.Disk) { d.Fuse = fuse })
		for _, o := range ops() {
			need := o.room(api.MinBudget, len(samples(90)))
			isRefused(t, o, "a name that is there", d, api.MinBudget, "a", "raw", api.ErrTwice)
			isRefused(t, o, "no name", d, api.MinBudget, "a", "", api.ErrRange)
			isRefused(t, o, "no such file", d, api.MinBudget, "none", "to", api.ErrNone)
			isRefused(t, o, "no room", roomy(d, 1), api.MinBudget, "a", "to", api.ErrFull)
			isRefused(t, o, "a sector less than is needed", roomy(d, need-1), api.MinBudget, "a", "to", api.ErrFull)
		}
	}
}

// keeps are some of what may be kept of so many writes: none, all, each one alone, all but each, and others.
func keeps(n int) [][]bool {
	l := [][]bool{nil, slices.Repeat([]bool{true}, n)}
	r := rand.New(rand.NewPCG(14, uint64(n)))
	for i := range n {
		one, but, any := make([]bool, n), slices.Repeat([]bool{true}, n), make([]bool, n)
		one[i], but[i] = true, false
		for j := range any {
			any[j] = r.IntN(2) == 0
		}
		l = append(l, one, but, any)
	}
	return l
}

// isCrashed holds what is behind a crash against what may be: the new file is whole, or has no head, or is not there; the others are as they were, but for those whose names begin with a tilde. It tells the disk without the new file, and whether that is whole.
func isCrashed(t *testing.T, what string, d api.Disk, keep []bool, whole, without api.Disk) (api.Disk, bool) {
	t.Helper()
	crashed, e := disk.Crash(d, keep...)
	if e != api.OK {
		t.Fatalf("%s: Crash: error %d", what, e)
	}
	_, _, e = recs.Head(crashed, "to")
	left := changed(crashed, func(d *api.Disk) {
		d.Extents = slices.DeleteFunc(d.Extents, func(x api.Extent) bool { return x.Name[0] == '~' && x.Name != "~" })
	})
	if e == api.OK && alike(left, whole) {
		return crashed, true
	}
	if e == api.ErrForm {
		crashed, _ = disk.Free(crashed, "to")
		left, _ = disk.Free(left, "to")
	} else if e != api.ErrNone {
		t.Fatalf("%s: behind the crash: error %d", what, e)
	}
	if !alike(left, without) {
		t.Fatalf("%s: behind the crash: %v\nas it should be:\n%v", what, left, without)
	}
	return crashed, false
}

// isPowerless has an operation be done with power for so many writes; with an error the disk is as it is then. It tells whether all was done.
func isPowerless(t *testing.T, o op, d api.Disk, fuse int, from string, whole api.Disk) (api.Disk, api.Cost, bool) {
	t.Helper()
	l := read(t, d, from)
	got, n, c, e := o.do(changed(d, func(d *api.Disk) { d.Fuse = fuse }), api.MinBudget, from, "to")
	if most := o.most(api.MinBudget, len(l)); c.Reads+c.Writes > uint64(most) || c.Frames < 1 || c.Frames > api.MinBudget {
		t.Fatalf("%s of %s, with power for %d writes: a cost of %+v, and at most %d", o.what, from, fuse, c, most)
	}
	if e == api.OK {
		_, many := o.want(l)
		if want := changed(whole, func(d *api.Disk) { d.Fuse = got.Fuse }); !alike(got, want) || n != many || got.Fuse < 0 || c.Writes != uint64(fuse-got.Fuse) {
			t.Fatalf("%s of %s, with power for %d writes: %d, a cost of %+v, %v\nas it should be:\n%v", o.what, from, fuse, n, c, got, want)
		}
		return got, c, true
	}
	if e != api.ErrPower || n != 0 || !got.Down || disk.Check(got) != api.OK || c.Writes != uint64(fuse+1) {
		t.Fatalf("%s of %s, with power for %d writes: error %d, %d, a cost of %+v, %v", o.what, from, fuse, e, n, c, got)
	}
	return got, c, false
}

// 14.1, 14.2, chapter 7, words: wherever the power goes, the error is told beside the disk as it is then, and what it cost so far; behind the crash the new file is whole, or has no head, or is not there. Done again, it comes to what it would have been.
func TestPower(t *testing.T) {
	for _, from := range []string{"a", "b", "n", "o", "w"} {
		for _, o := range ops() {
			without := synced(busy(t))
			made, _ := o.want(read(t, without, from))
			whole, wholes, done, last := put(without, made), 0, false, api.Cost{}
			for fuse := 0; !done; fuse++ {
				var got api.Disk
				var c api.Cost
				got, c, done = isPowerless(t, o, busy(t), fuse, from, whole)
				if c.Reads < last.Reads || c.Writes < last.Writes {
					t.Fatalf("%s of %s, with power for %d writes: a cost of %+v, for one less of %+v", o.what, from, fuse, c, last)
				}
				last = c
				for _, keep := range keeps(len(got.Waits)) {
					crashed, is := isCrashed(t, o.what, changed(got, func(d *api.Disk) { d.Fuse = -1 }), keep, whole, without)
					if is {
						wholes++
						continue
					}
					isDone(t, o, "behind a crash", roomy(crashed, 400), api.MinBudget, from)
				}
			}
			if wholes == 0 {
				t.Fatalf("%s of %s: the file is never whole behind a crash", o.what, from)
			}
		}
	}
}

// 14.2: where there are many runs, the power may go at any write.
func TestPowerRuns(t *testing.T) {
	l := some(1379, 9)
	d := with(t, 1100, list("a", l))
	made, _ := reduceOp().want(l)
	whole, done := put(d, made), false
	for fuse := 0; !done; fuse += 10 + fuse%7 {
		var got api.Disk
		got, _, done = isPowerless(t, reduceOp(), d, fuse, "a", whole)
		if done {
			continue
		}
		if _, is := isCrashed(t, "Reduce", got, slices.Repeat([]bool{fuse%2 == 0}, len(got.Waits)), whole, d); is {
			t.Fatalf("with power for %d writes the file is there", fuse)
		}
	}
}

// texts are all a disk's, by where they lie; the empty one lies nowhere.
func texts(d api.Disk) map[*byte]int {
	of := map[*byte]int{}
	for _, x := range d.Extents {
		of[unsafe.StringData(x.Name)]++
		of[unsafe.StringData(x.Data)]++
	}
	for _, one := range d.Waits {
		of[unsafe.StringData(one.Name)]++
		of[unsafe.StringData(one.Data)]++
	}
	return of
}

// shares tells whether two disks share a list or a text.
func shares(a, b api.Disk) bool {
	of := texts(a)
	for text := range texts(b) {
		if of[text] > 0 {
			return true
		}
	}
	return len(a.Extents)*len(b.Extents) > 0 && &a.Extents[0] == &b.Extents[0] || len(a.Waits)*len(b.Waits) > 0 && &a.Waits[0] == &b.Waits[0]
}

// 14.3: what each call, refused or not, answers is its own, and what was handed in is as it was.
func TestNewMemory(t *testing.T) {
	for _, by := range []func(d *api.Disk){func(*api.Disk) {}, func(d *api.Disk) { d.Fuse = 0 }, func(d *api.Disk) { d.Fuse = 20 }, func(d *api.Disk) { d.Fuse = 45 }, func(d *api.Disk) { d.Down = true }} {
		for _, from := range []string{"a", "b", "n", "w", "none"} {
			for _, budget := range []int{api.MinBudget, api.MaxFrames, 1} {
				for _, o := range ops() {
					d, to := changed(busy(t), by), strings.Repeat("t", 2)
					got, _, _, _ := o.do(d, budget, from, to)
					again, _, _, _ := o.do(d, budget, from, to)
					if shares(got, d) || shares(got, again) || texts(got)[unsafe.StringData(to)] > 0 {
						t.Fatalf("%s of %s: what is answered is no new memory", o.what, from)
					}
					clear(got.Extents)
					clear(got.Waits)
					if next, _, _, _ := o.do(d, budget, from, to); !alike(next, again) || !alike(d, changed(busy(t), by)) {
						t.Fatalf("%s of %s: what was answered, or handed in, is kept", o.what, from)
					}
				}
			}
		}
	}
}

// P1, P3, P4: whatever is handed in, each call answers the same twice, and leaves no goroutine.
func TestWhatever(t *testing.T) {
	before := runtime.NumGoroutine()
	d := busy(t)
	wild := api.Disk{Extents: []api.Extent{{Name: "~2"}, {Name: "~10000"}, {}, {Name: "~1"}}, Waits: []api.Write{{Name: "~1", Sector: -1}}}
	disks := []api.Disk{{}, {Size: -1}, {Size: 3, Fuse: -1}, wild, d, changed(d, func(d *api.Disk) { d.Waits = nil }), changed(d, func(d *api.Disk) { d.Fuse = 2 }), changed(d, func(d *api.Disk) { d.Down = true })}
	r := rand.New(rand.NewPCG(14, 14))
	for range 60 {
		one := turned(d, "b", r.IntN(api.SectorSize+20))
		disks = append(disks, changed(one, func(d *api.Disk) { d.Fuse, d.Size = r.IntN(99)-2, d.Size-r.IntN(400) }))
	}
	names := []string{"", "a", "b", "n", "o", "raw", "none", "w", "~", "~10000", longest + "n"}
	for _, d := range disks {
		for range 30 {
			from, to := names[r.IntN(len(names))], names[r.IntN(len(names))]
			budget := []int{-1, 0, api.MinBudget - 1, api.MinBudget, api.MinBudget, 99, api.MaxFrames, api.MaxFrames + 1}[r.IntN(8)]
			for _, o := range ops() {
				one, n, c, e := o.do(d, budget, from, to)
				other, m, g, f := o.do(d, budget, from, to)
				if !alike(one, other) || n != m || c != g || e != f {
					t.Fatalf("%s: error %d, and then %d", o.what, e, f)
				}
				if e != api.OK && (n != 0 || e != api.ErrPower && c != api.Cost{}) {
					t.Fatalf("%s: error %d beside %d, and a cost of %+v", o.what, e, n, c)
				}
			}
		}
	}
	if after := runtime.NumGoroutine(); after > before {
		t.Errorf("%d goroutines, where %d were", after, before)
	}
}
