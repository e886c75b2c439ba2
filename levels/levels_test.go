package levels_test

import (
	"math"
	"math/rand/v2"
	"runtime"
	"slices"
	"sort"
	"strconv"
	"strings"
	"testing"
	"unsafe"

	"wringer/api"
	"wringer/disk"
	"wringer/levels"
	"wringer/names"
	"wringer/order"
	"wringer/recs"
	"wringer/skew"
)

// ends is the order of a list's ends, held against each other one by one.
func ends(l []uint64) []uint64 {
	places := rising(0, len(l))
	slices.SortFunc(places, func(a, b uint64) int { return slices.Compare(l[a:], l[b:]) })
	return places
}

// inverse tells at which place each number is.
func inverse(l []uint64) []uint64 {
	at := make([]uint64, len(l))
	for place, number := range l {
		at[number] = uint64(place)
	}
	return at
}

// reducedEnds is the order of the ends of a list's reduced one.
func reducedEnds(l []uint64) []uint64 {
	reduced, _, _ := skew.Reduce(l)
	return ends(reduced)
}

// set is a list's file, and beside it those of the order of its ends, and of its reduced list's.
func set(name string, l []uint64) []file {
	return []file{list(name, l), list("o."+name, ends(l)), list("e."+name, reducedEnds(l))}
}

// withSets is a disk with the sets of lists.
func withSets(t *testing.T, room int, lists map[string][]uint64) api.Disk {
	t.Helper()
	files := []file{}
	for name, l := range lists {
		files = append(files, set(name, l)...)
	}
	return with(t, room, files...)
}

// one is a disk with the set of one list, called a.
func one(t *testing.T, room int, l []uint64) api.Disk {
	t.Helper()
	return withSets(t, room, map[string][]uint64{"a": l})
}

// busy is a disk with the sets of some lists, of which w and what belongs to it is wrong until what waits is done.
func busy(t *testing.T) api.Disk {
	t.Helper()
	d := withSets(t, 600, map[string][]uint64{"a": some(30, 2), "b": some(41, 1), "n": nil, "o": {7}, "w": some(27, 2), "~": some(9, 4)})
	d, _ = disk.Write(d, "raw", 1, all("w"))
	for _, name := range []string{"w", "o.w", "e.w"} {
		was, _ := disk.Read(d, name, 1)
		d, _ = disk.Write(d, name, 1, was)
		d = changed(d, func(d *api.Disk) {
			at := place(*d, name)
			d.Extents[at].Data = d.Extents[at].Data[:api.SectorSize] + all("\x00") + d.Extents[at].Data[2*api.SectorSize:]
		})
	}
	return d
}

// op is one of the package's calls, that are done of a list's set: of which files of it, and what it should make of the list.
type op struct {
	what  string
	files func(name string) []string
	do    func(d api.Disk, budget int, to string, files ...string) (api.Disk, api.Cost, api.Errno)
	want  func(l []uint64) []uint64
}

// ops are all of them.
func ops() []op {
	return []op{
		{
			what:  "Array",
			files: func(name string) []string { return []string{name} },
			do: func(d api.Disk, budget int, to string, files ...string) (api.Disk, api.Cost, api.Errno) {
				return levels.Array(d, budget, files[0], to)
			},
			want: ends,
		},
		{
			what:  "Expand",
			files: func(name string) []string { return []string{name, "e." + name} },
			do: func(d api.Disk, budget int, to string, files ...string) (api.Disk, api.Cost, api.Errno) {
				return levels.Expand(d, budget, files[0], files[1], to)
			},
			want: ends,
		},
		{
			what:  "Inverse",
			files: func(name string) []string { return []string{"o." + name} },
			do: func(d api.Disk, budget int, to string, files ...string) (api.Disk, api.Cost, api.Errno) {
				return levels.Inverse(d, budget, files[0], to)
			},
			want: func(l []uint64) []uint64 { return inverse(ends(l)) },
		},
	}
}

// most is how many sectors may be needed of a list's file of so many numbers.
func most(many int) int { return 40*sectors(many) + 128 }

// needed is how many sectors an operation needs of a list's set on a disk, found by trying.
func needed(t *testing.T, o op, d api.Disk, budget int, name string) int {
	t.Helper()
	return sort.Search(most(len(read(t, d, name))), func(room int) bool {
		_, _, e := o.do(roomy(d, room), budget, "to", o.files(name)...)
		if e != api.OK && e != api.ErrFull {
			t.Fatalf("%s of %s: error %d", o.what, name, e)
		}
		return e == api.OK
	})
}

// isDone has an operation be done of a list's set, and nothing else.
func isDone(t *testing.T, o op, what string, d api.Disk, budget int, name string) {
	t.Helper()
	l := read(t, d, name)
	want := put(synced(d), list("to", o.want(l)))
	got, c, e := o.do(d, budget, "to", o.files(name)...)
	if !alike(got, want) || e != api.OK {
		t.Fatalf("%s of %s, %s, under %d: error %d; %v\nas it should be:\n%v", o.what, name, what, budget, e, got, want)
	}
	if c.Frames < 1 || c.Frames > budget || c.Writes < uint64(sectors(len(l))) || c.Reads < uint64(sectors(len(l))) {
		t.Fatalf("%s of %s, %s: a cost of %+v, of %d numbers and a budget of %d", o.what, name, what, c, len(l), budget)
	}
}

// isRefused has an operation tell an error, and the disk as it was: zero, if that is not right.
func isRefused(t *testing.T, o op, what string, d api.Disk, budget int, to string, want api.Errno, files ...string) {
	t.Helper()
	was := d
	if disk.Check(d) != api.OK {
		was = api.Disk{}
	}
	got, c, e := o.do(d, budget, to, files...)
	if !alike(got, was) || c != (api.Cost{}) || e != want {
		t.Fatalf("%s of %q to %q, %s: error %d, not %d; a cost of %+v; %v\nas it was:\n%v", o.what, files, to, what, e, want, c, got, was)
	}
}

func TestExample(t *testing.T) {
	d := one(t, 60, []uint64{2, 1, 4, 1, 4, 1})
	want := []uint64{5, 3, 1, 0, 4, 2}
	got, _, e := levels.Array(d, api.MinBudget, "a", "to")
	if l := read(t, got, "to"); e != api.OK || !slices.Equal(l, want) {
		t.Errorf("Array: error %d, %v", e, l)
	}
	got, _, e = levels.Expand(d, api.MinBudget, "a", "e.a", "to")
	if l := read(t, got, "to"); e != api.OK || !slices.Equal(l, want) {
		t.Errorf("Expand: error %d, %v", e, l)
	}
	got, _, e = levels.Inverse(d, api.MinBudget, "o.a", "to")
	if l := read(t, got, "to"); e != api.OK || !slices.Equal(l, []uint64{3, 2, 5, 1, 4, 0}) {
		t.Errorf("Inverse: error %d, %v", e, l)
	}
}

// atOnce is how many numbers fit a budget at once, by the words.
func atOnce(budget int) int { return (64*budget - 64*8) / 40 }

// 15.3, 15.6: of all counts that there may be, under budgets of all sizes: by the words, and no more than it takes to have two thirds, and one, at a time.
func TestLevels(t *testing.T) {
	if atOnce(api.MinBudget) != 25 || atOnce(api.MaxFrames) != 396 {
		t.Fatalf("%d and %d fit at once", atOnce(api.MinBudget), atOnce(api.MaxFrames))
	}
	for budget := api.MinBudget; budget <= api.MaxFrames; budget += 1 + budget/40 {
		want := make([]int, api.MaxCount+1)
		for count := range want {
			bound := 0
			for n := count; n > atOnce(budget); n = n*2/3 + 1 {
				bound++
			}
			if count > atOnce(budget) {
				few, _ := names.Need(uint64(count))
				want[count] = want[few] + 1
			}
			if got, e := levels.Levels(budget, uint64(count)); got != want[count] || got > bound || e != api.OK {
				t.Fatalf("Levels of %d, under %d: error %d, %d, where it should be %d, and at most %d", count, budget, e, got, want[count], bound)
			}
		}
	}
	for _, l := range []struct {
		budget int
		count  uint64
		want   int
	}{{24, 0, 0}, {24, 25, 0}, {24, 26, 1}, {24, 38, 1}, {24, 39, 2}, {256, 396, 0}, {256, 397, 1}} {
		if got, e := levels.Levels(l.budget, l.count); got != l.want || e != api.OK {
			t.Errorf("Levels of %d, under %d: error %d, %d, where it should be %d", l.count, l.budget, e, got, l.want)
		}
	}
}

// wrongBudgets are budgets that are wrong, and what is told of them.
var wrongBudgets = []struct {
	budget int
	want   api.Errno
}{
	{api.MinBudget - 1, api.ErrBudget}, {8, api.ErrBudget}, {1, api.ErrBudget}, {0, api.ErrBudget}, {-1, api.ErrBudget}, {math.MinInt, api.ErrBudget},
	{api.MaxFrames + 1, api.ErrRange}, {1 << 20, api.ErrRange}, {math.MaxInt, api.ErrRange},
}

// 15.3: a budget that is too small comes ahead of a count that is too great.
func TestLevelsWrong(t *testing.T) {
	for _, count := range []uint64{0, 25, 26, api.MaxCount, api.MaxCount + 1, 1 << 32, 1 << 63, math.MaxUint64} {
		for _, l := range wrongBudgets {
			if got, e := levels.Levels(l.budget, count); got != 0 || e != l.want {
				t.Fatalf("Levels of %d, under %d: error %d, not %d; %d", count, l.budget, e, l.want, got)
			}
		}
		if count <= api.MaxCount {
			continue
		}
		for _, budget := range []int{api.MinBudget, 99, api.MaxFrames} {
			if got, e := levels.Levels(budget, count); got != 0 || e != api.ErrRange {
				t.Fatalf("Levels of %d, under %d: error %d, %d", count, budget, e, got)
			}
		}
	}
}

// 15.1, 15.2, 15.3, 15.5: lists of many sizes, be they divided by 3 or not, with numbers of many kinds.
func TestSizes(t *testing.T) {
	for _, many := range []int{0, 1, 2, 3, 4, 5, 6, 7, 8, 9, 10, 11, 12, 13, 14, 24, 25, 26, 27, 28, 37, 38, 39, 40, 41, 56, 57, 58, 90, 181} {
		for what, l := range shapes(many) {
			d := one(t, 2000, l)
			for _, o := range ops() {
				isDone(t, o, strconv.Itoa(many)+" numbers, "+what, d, api.MinBudget, "a")
				isDone(t, o, strconv.Itoa(many)+" numbers, "+what, d, 30, "a")
			}
		}
	}
}

// 15.1, 15.2, 15.5: all short lists of few numbers.
func TestAllShort(t *testing.T) {
	d := with(t, 60)
	for many := range 7 {
		l := repeated(many, 1)
		for done := false; !done; {
			d := put(roomy(d, 60), list("a", l))
			d = put(d, list("e", reducedEnds(l)))
			d = roomy(d, 60)
			for _, o := range ops()[:2] {
				got, _, e := o.do(d, api.MinBudget, "to", "a", "e")
				if e != api.OK || !slices.Equal(read(t, got, "to"), ends(l)) {
					t.Fatalf("%s of %v: error %d, %v", o.what, l, e, read(t, got, "to"))
				}
			}
			done = true
			for i := range l {
				if l[i]++; l[i] <= 3 {
					done = false
					break
				}
				l[i] = 1
			}
		}
	}
}

// 15.1, P8: lists of as many as fit the budget at once, and one or two more; what is put in order at once has frames, 40 bytes for each number.
func TestAtOnce(t *testing.T) {
	for _, budget := range []int{api.MinBudget, api.MinBudget + 1, 25, 32, 33, 100, api.MaxFrames} {
		for more := -1; more <= 2; more++ {
			for _, highest := range []uint64{1, 2, 200} {
				l := some(atOnce(budget)+more, highest)
				d := one(t, 3000, l)
				for _, o := range ops() {
					isDone(t, o, strconv.Itoa(len(l))+" numbers", d, budget, "a")
				}
				_, c, _ := levels.Array(d, budget, "a", "to")
				if most := uint64(sectors(len(l))); more <= 0 && (c.Writes != most || c.Frames*api.SectorSize < 40*len(l)) {
					t.Fatalf("Array of %d numbers at once, under %d: a cost of %+v", len(l), budget, c)
				}
			}
		}
	}
}

// 15.5, P5: whatever the budget is, the disk that comes of it is the same.
func TestBudgets(t *testing.T) {
	for _, highest := range []uint64{1, 3, api.MaxNum - 1} {
		d := one(t, 3000, some(430, highest))
		for _, o := range ops() {
			want, _, e := o.do(d, api.MinBudget, "to", o.files("a")...)
			for budget := api.MinBudget + 1; budget <= api.MaxFrames; budget += 1 + budget/9 {
				got, c, f := o.do(d, budget, "to", o.files("a")...)
				if e != api.OK || f != api.OK || !alike(got, want) || c.Frames < 1 || c.Frames > budget {
					t.Fatalf("%s under %d: error %d, a cost of %+v", o.what, budget, f, c)
				}
			}
			isDone(t, o, "under the most", d, api.MaxFrames, "a")
		}
	}
}

// 15.5: what comes of it is what is told of the list in memory, up to the longest one there.
func TestAsInMemory(t *testing.T) {
	for _, many := range []int{500, 1001, api.MaxPlain - 1, api.MaxPlain} {
		for _, highest := range []uint64{1, 2, 4, 256} {
			l := some(many, highest)
			d := with(t, 5000, list("a", l))
			want, _ := order.Ends(l)
			got, _, e := levels.Array(d, api.MinBudget+many%99, "a", "to")
			if e != api.OK || !slices.EqualFunc(read(t, got, "to"), want, func(a uint64, b int) bool { return a == uint64(b) }) {
				t.Fatalf("Array of %d numbers up to %d: error %d", many, highest, e)
			}
		}
	}
}

// 15.1: the longest list with which there is room on any disk, and one more number.
func TestMost(t *testing.T) {
	isTooLong := func(many int) bool {
		return 2+sectors(many)+levels.Room(api.MaxFrames, uint64(many)) > api.MaxSectors
	}
	many := sort.Search(api.MaxCount, isTooLong) - 1
	if many < 15000 {
		t.Fatalf("there is room for %d numbers", many)
	}
	full := func(l []uint64) api.Disk {
		return changed(with(t, 0, list("a", l)), func(d *api.Disk) { d.Size = api.MaxSectors })
	}
	array := ops()[0]
	isRefused(t, array, "a list that is too long", full(some(many+1, 2)), api.MaxFrames, "to", api.ErrFull, "a")
	l := some(many, 2)
	d := full(l)
	got, c, e := levels.Array(d, api.MaxFrames, "a", "to")
	places := []int{}
	for _, place := range read(t, got, "to") {
		places = append(places, int(place))
	}
	if e != api.OK || !order.Right(l, places) || c.Frames > api.MaxFrames || !alike(gone(got, "to"), d) {
		t.Fatalf("Array of %d numbers: error %d, a cost of %+v", many, e, c)
	}
}

// 15.1, 15.2, 15.3: of as many numbers as a file may have there is no room on any disk.
func TestMaxCount(t *testing.T) {
	samples, _ := names.Need(api.MaxCount)
	d := with(t, 0, list("a", repeated(api.MaxCount, 1)), list("e.a", rising(0, int(samples))))
	d = changed(d, func(d *api.Disk) { d.Size = api.MaxSectors })
	for _, o := range ops()[:2] {
		isRefused(t, o, "MaxCount numbers", d, api.MinBudget, "to", api.ErrFull, o.files("a")...)
	}
	d = with(t, 0, list("o.a", rising(0, api.MaxCount)))
	d = changed(d, func(d *api.Disk) { d.Size = api.MaxSectors })
	isRefused(t, ops()[2], "MaxCount numbers", d, api.MinBudget, "to", api.ErrFull, "o.a")
}

// Chapter 15, words: there is never more room needed than is told, whatever the list and the budget.
func TestRoomTold(t *testing.T) {
	for _, budget := range []int{api.MinBudget, api.MinBudget + 1, 60, api.MaxFrames} {
		for many := 0; many <= api.MaxCount; many += 1 + many/199 {
			if need := levels.Room(budget, uint64(many)); need > most(many) {
				t.Fatalf("Array of %d numbers, under %d: %d sectors, where there should be at most %d", many, budget, need, most(many))
			}
		}
		for _, many := range []int{0, 1, 2, 3, 4, 13, 25, 26, 27, 60, 400, 1300} {
			l := some(many, 2)
			for _, o := range ops() {
				isDone(t, o, "with as much room as may be needed", one(t, most(many), l), budget, "a")
			}
		}
	}
}

// 15.1, 15.2, 15.3: just as much room as is needed, and any less: there is no file then, however much power there is.
func TestRoom(t *testing.T) {
	for _, budget := range []int{api.MinBudget, 31, api.MaxFrames} {
		for _, many := range []int{0, 1, 2, 3, 4, 12, 13, 14, 25, 26, 60, 240} {
			d := one(t, 0, some(many, 1+uint64(many)%3))
			for _, o := range ops() {
				need := needed(t, o, d, budget, "a")
				isDone(t, o, "with just as much room", roomy(d, need), budget, "a")
				for _, less := range []int{1, 2, 3, need - sectors(many), need - sectors(many) + 1, need} {
					for _, fuse := range []int{-1, 0, 7} {
						if less > 0 && less <= need {
							isRefused(t, o, "with less room", fused(roomy(d, need-less), fuse), budget, "to", api.ErrFull, o.files("a")...)
						}
					}
				}
				if need < sectors(many) {
					t.Fatalf("%s of %d numbers needs %d sectors", o.what, many, need)
				}
			}
			if need := needed(t, ops()[0], d, budget, "a"); need != levels.Room(budget, uint64(many)) {
				t.Fatalf("Array of %d numbers, under %d, needs %d sectors, where %d are told", many, budget, need, levels.Room(budget, uint64(many)))
			}
		}
	}
}

// onTheWay are the names that have come, beside the new file's, when there is power for so many writes, of how many sectors all are that have come, and whether all is done.
func onTheWay(t *testing.T, o op, d api.Disk, fuse int, to string) ([]string, int, bool) {
	t.Helper()
	got, _, e := o.do(fused(d, fuse), api.MinBudget, to, o.files("a")...)
	if e != api.OK && e != api.ErrPower {
		t.Fatalf("%s, with power for %d writes: error %d", o.what, fuse, e)
	}
	come := []string{}
	for _, x := range got.Extents {
		if place(d, x.Name) < 0 && x.Name != to {
			come = append(come, x.Name)
		}
	}
	return come, used(got) - used(d), e == api.OK
}

// Chapter 15, words: as long as it is at work, other files have names that begin with a tilde, none of them the new one's, be that a name that they would have else; in the end they are no more. They have just as many sectors as are asked for ahead.
func TestOnTheWay(t *testing.T) {
	for _, o := range ops() {
		for _, many := range []int{30, 90} {
			d, seen, sectors := one(t, 2000, repeated(many, 1)), []string{}, 0
			done := false
			for fuse := 0; !done; fuse++ {
				var come []string
				var many int
				come, many, done = onTheWay(t, o, d, fuse, "to")
				if done && len(come) > 0 {
					t.Fatalf("%s: in the end there are %q", o.what, come)
				}
				seen, sectors = append(seen, come...), max(sectors, many)
			}
			if need := needed(t, o, d, api.MinBudget, "a"); sectors != need {
				t.Fatalf("%s: there are %d sectors on the way, where %d are asked for", o.what, sectors, need)
			}
			slices.Sort(seen)
			seen = slices.Compact(seen)
			if len(seen) < 2 || slices.ContainsFunc(seen, func(name string) bool { return name[0] != '~' }) {
				t.Fatalf("%s: on the way there are %q", o.what, seen)
			}
			for _, to := range seen {
				if come, _, done := onTheWay(t, o, d, -1, to); !done || len(come) > 0 {
					t.Fatalf("%s to %q: in the end there are %q", o.what, to, come)
				}
			}
		}
	}
}

// Chapter 15, words: names that others have, whatever they are, are not those of files on the way.
func TestTilde(t *testing.T) {
	l := some(60, 2)
	d := one(t, 2000, l)
	for _, name := range []string{"~", "~~", "~0", "~1", "~10000", "~100000", "~100001", "~10001", "~10002x", "~10003\x00", "~99999", "~levels"} {
		d = put(d, list(name, some(3, 3)))
	}
	for _, f := range set("~10004"+longest[8:], l) {
		d = put(d, f)
	}
	for i := range 60 {
		d = put(d, list("~"+strconv.Itoa(10010+i), nil))
	}
	d = roomy(d, 2000)
	for _, o := range ops() {
		isDone(t, o, "where there are names with a tilde", d, api.MinBudget, "a")
		isDone(t, o, "of a name with a tilde", d, api.MinBudget, "~10004"+longest[8:])
		for _, to := range []string{"~10005", "~100050", "~100060", "~100070000", "~2", "~1000x", longest} {
			got, c, e := o.do(d, api.MinBudget, to, o.files("a")...)
			if e != api.OK || !alike(got, put(d, list(to, o.want(l)))) || c.Writes == 0 {
				t.Fatalf("%s to %q: error %d, a cost of %+v", o.what, to, e, c)
			}
		}
	}
}

// 15.1, 15.2, 15.3, chapter 7, words: where writes wait, what is seen is read, and all that waits is synced.
func TestWaits(t *testing.T) {
	for _, many := range []int{0, api.MaxWaits - 1, api.MaxWaits} {
		d := changed(busy(t), func(d *api.Disk) {
			more := slices.Repeat([]api.Write{{Name: "raw", Data: all("?")}}, max(0, many-len(d.Waits)))
			d.Waits = append(more, d.Waits...)
		})
		for _, name := range []string{"a", "b", "n", "o", "w", "~"} {
			for _, o := range ops() {
				isDone(t, o, "where writes wait", d, api.MinBudget, name)
				isDone(t, o, "where writes wait", d, 77, name)
			}
		}
	}
}

// 15.1, 15.2, 15.3, chapter 7, words: what is behind a body is not asked.
func TestBehind(t *testing.T) {
	d := one(t, 400, some(30, 2))
	for _, name := range []string{"a", "o.a", "e.a"} {
		i := place(d, name)
		for at := api.SectorSize + 5*len(read(t, d, name)); at < len(d.Extents[i].Data); at += 7 {
			d = turned(d, name, at)
		}
		if _, _, e := recs.Read(d, name); e != api.ErrCode {
			t.Fatalf("what is behind the body of %s is not 0: error %d", name, e)
		}
	}
	for _, o := range ops() {
		isDone(t, o, "where there is something behind the bodies", d, api.MinBudget, "a")
	}
}

// 15.1, 15.2, 15.3: a disk that is not right comes ahead of one without power, that of a budget, and that of all others.
func TestBudget(t *testing.T) {
	d := put(busy(t), list("z", []uint64{0}))
	bad := changed(d, func(d *api.Disk) { d.Size, d.Down = 1, true })
	down := changed(d, func(d *api.Disk) { d.Down, d.Fuse = true, 0 })
	for _, o := range ops() {
		for _, name := range []string{"a", "n", "w", "z", "none", "raw", ""} {
			for _, to := range []string{"to", "", "a"} {
				for _, budget := range []int{api.MinBudget, api.MaxFrames, api.MinBudget - 1, api.MaxFrames + 1, 0} {
					isRefused(t, o, "a disk that is not right", bad, budget, to, api.ErrForm, o.files(name)...)
					isRefused(t, o, "a disk without power", down, budget, to, api.ErrPower, o.files(name)...)
				}
				for _, l := range wrongBudgets {
					isRefused(t, o, "a budget of "+strconv.Itoa(l.budget), d, l.budget, to, l.want, o.files(name)...)
				}
			}
		}
	}
}

// wrong is a disk of which a file is none, and what is told of that.
type wrong struct {
	what string
	d    api.Disk
	want api.Errno
}

// wrongs are disks on which a file of more than one number is no file of records.
func wrongs(d api.Disk, name string) []wrong {
	without := gone(d, name)
	text, _ := recs.WriteText(without, name, "xyz")
	empty, _ := recs.WriteText(without, name, "")
	raw, _ := disk.New(without, name, 2)
	waits, _ := disk.Write(d, name, 0, all("\x00"))
	resized := func(by func(data string) string) api.Disk {
		return changed(d, func(d *api.Disk) {
			at := place(*d, name)
			d.Extents[at].Data = by(d.Extents[at].Data)
		})
	}
	return []wrong{
		{"no such file", without, api.ErrNone},
		{"a file of bytes", text, api.ErrCode},
		{"a file of no bytes", empty, api.ErrCode},
		{"no head", raw, api.ErrForm},
		{"no head, once what waits is done", waits, api.ErrForm},
		{"no mark", turned(d, name, 0), api.ErrForm},
		{"another width", turned(d, name, 2), api.ErrSum},
		{"another count", turned(d, name, 7), api.ErrSum},
		{"another sum", turned(d, name, 9), api.ErrSum},
		{"another end of the head", turned(d, name, 63), api.ErrForm},
		{"a sector too many", resized(func(data string) string { return data + all("\x00") }), api.ErrForm},
		{"a sector too few", resized(func(data string) string { return data[api.SectorSize:] }), api.ErrForm},
	}
}

// 15.1, 15.2, 15.3: the error of the files' records comes ahead of that of their widths and numbers, and of the new file's errors; that of the first file ahead of that of the second.
func TestRecordsWrong(t *testing.T) {
	d := one(t, 300, some(40, 3))
	for _, o := range ops() {
		for i, name := range o.files("a") {
			for _, l := range wrongs(d, name) {
				for _, to := range []string{"to", "", longest + "n", "raw"} {
					isRefused(t, o, l.what, l.d, api.MinBudget, to, l.want, o.files("a")...)
					isRefused(t, o, l.what+", and no room", roomy(l.d, 0), api.MaxFrames, to, l.want, o.files("a")...)
				}
				if i == 1 {
					isRefused(t, o, "no first file, and "+l.what, gone(l.d, "a"), api.MinBudget, "to", api.ErrNone, o.files("a")...)
					other := put(gone(l.d, "a"), file{"a", 2, [][]uint64{{0, 0}}})
					isRefused(t, o, "a first file that is too wide, and "+l.what, other, api.MinBudget, "to", l.want, o.files("a")...)
				}
			}
		}
		for _, name := range []string{"", longest, longest + "n"} {
			isRefused(t, o, "no such file", d, api.MinBudget, "to", api.ErrNone, o.files(name)...)
		}
	}
}

// 15.1, 15.2, 15.3: a file of another width than 1 is none of numbers: this comes ahead of the new file's errors, and of how many there are, and which.
func TestWidthWrong(t *testing.T) {
	for width := 2; width <= api.MaxWidth; width++ {
		for _, records := range [][][]uint64{nil, {make([]uint64, width)}, {slices.Repeat([]uint64{1}, width), slices.Repeat([]uint64{2}, width)}} {
			for _, o := range ops() {
				for _, name := range o.files("a") {
					d := roomy(put(gone(one(t, 0, some(9, 3)), name), file{name, width, records}), 300)
					for _, to := range []string{"to", "", longest + "n", "raw"} {
						isRefused(t, o, "another width", d, api.MinBudget, to, api.ErrRange, o.files("a")...)
						isRefused(t, o, "another width, and no room", roomy(d, 0), api.MinBudget, to, api.ErrRange, o.files("a")...)
					}
				}
			}
		}
	}
}

// 15.1, 15.2, 15.3: the new file's errors, in their order; they come ahead of what is wrong with how many numbers there are, and which.
func TestNewWrong(t *testing.T) {
	d := withSets(t, 300, map[string][]uint64{"a": some(100, 3), "n": nil, "o": {3}})
	d = put(put(put(d, list("z", []uint64{3, 0, 1})), list("o.z", []uint64{3, 0, 1})), list("e.z", []uint64{0}))
	d = roomy(d, 300)
	for _, o := range ops() {
		for _, name := range []string{"a", "n", "o", "z"} {
			for _, d := range []api.Disk{d, roomy(d, 0)} {
				isRefused(t, o, "no name", d, api.MinBudget, "", api.ErrRange, o.files(name)...)
				isRefused(t, o, "a name that is too long", d, api.MinBudget, longest+"n", api.ErrRange, o.files(name)...)
				for _, to := range []string{"a", "n", "o.o", "raw", "e.z"} {
					isRefused(t, o, "a name that is there", d, api.MinBudget, to, api.ErrTwice, o.files(name)...)
				}
			}
			isRefused(t, o, "no room", roomy(d, 0), api.MinBudget, "to", api.ErrFull, o.files(name)...)
			few := sectors(len(read(t, d, name))) - 1
			isRefused(t, o, "a sector less than the new file has", roomy(d, few), api.MinBudget, "to", api.ErrFull, o.files(name)...)
		}
	}
}

// isOneOf has an operation tell one of some errors, and the disk as it was.
func isOneOf(t *testing.T, o op, what string, d api.Disk, budget int, files []string, want ...api.Errno) {
	t.Helper()
	_, _, e := o.do(d, budget, "to", files...)
	if !slices.Contains(want, e) {
		t.Fatalf("%s of %q, %s: error %d, which is none of %v", o.what, files, what, e, want)
	}
	isRefused(t, o, what, d, budget, "to", e, files...)
}

// 15.1, 15.2: wherever a number is 0, there is no file of the list, however much power there is.
func TestZero(t *testing.T) {
	for _, many := range []int{1, 2, 3, 4, 13, 25, 26, 120} {
		for _, at := range []int{0, 1, 2, 11, 12, 13, many / 2, many - 3, many - 2, many - 1} {
			if at < 0 || at >= many {
				continue
			}
			l := some(many, 9)
			d := one(t, 0, l)
			l[at] = 0
			d = roomy(put(gone(d, "a"), list("a", l)), 800)
			d, _ = disk.Write(d, "raw", 1, all("w"))
			for _, o := range ops()[:2] {
				for _, fuse := range []int{-1, 0, 1, 2, 5, 100} {
					isRefused(t, o, "a number that is 0", fused(d, fuse), api.MinBudget, "to", api.ErrCode, o.files("a")...)
				}
				isRefused(t, o, "a number that is 0", d, api.MaxFrames, "to", api.ErrCode, o.files("a")...)
				isOneOf(t, o, "a number that is 0, and no room", roomy(d, sectors(many)), api.MinBudget, o.files("a"), api.ErrCode, api.ErrFull)
			}
		}
	}
}

// noOrders are lists of so many numbers that are not each from 0 to below as many, once.
func noOrders(many int) map[string][]uint64 {
	l := map[string][]uint64{}
	change := func(what string, at int, to uint64) {
		if at >= 0 && at < many {
			one := rising(0, many)
			slices.Reverse(one)
			if one[at] != to {
				one[at] = to
				l[what+", at "+strconv.Itoa(at)] = one
			}
		}
	}
	for _, at := range []int{0, 1, many / 2, many - 2, many - 1} {
		change("as many", at, uint64(many))
		change("one more", at, uint64(many)+1)
		change("the highest", at, api.MaxNum-1)
		change("0 twice", at, 0)
		change("1 twice", at, 1%uint64(many))
		change("the last one twice", at, uint64(many)-1)
	}
	return l
}

// 15.2, 15.3: what is no order is told ahead of all that is done, however much power there is; also of more numbers than there are bits for at a time.
func TestNoOrder(t *testing.T) {
	for _, many := range []int{1, 2, 3, 17, 60, 1500} {
		for what, l := range noOrders(many) {
			d := with(t, 3000, list("o.a", l))
			d, _ = disk.Write(d, "raw", 1, all("w"))
			for _, fuse := range []int{-1, 0, 1, 5, 100} {
				isRefused(t, ops()[2], what, fused(d, fuse), api.MinBudget, "to", api.ErrCode, "o.a")
			}
			isRefused(t, ops()[2], what, d, api.MaxFrames, "to", api.ErrCode, "o.a")
			isOneOf(t, ops()[2], what+", and no room", roomy(d, sectors(many)), api.MinBudget, []string{"o.a"}, api.ErrCode, api.ErrFull)
		}
	}
	l := slices.Concat(rising(0, 9000), []uint64{8999})
	isRefused(t, ops()[2], "one twice", with(t, 5000, list("o.a", l)), api.MinBudget, "to", api.ErrCode, "o.a")
	l = slices.Concat([]uint64{8191}, rising(0, 8191), []uint64{8191})
	isRefused(t, ops()[2], "one twice", with(t, 5000, list("o.a", l)), api.MinBudget, "to", api.ErrCode, "o.a")
	l = slices.Concat(rising(8192, 8), rising(0, 8192))
	isDone(t, op{"Inverse", ops()[2].files, ops()[2].do, inverse}, "more than there are bits for", with(t, 5000, list("o.a", l), list("a", l)), api.MinBudget, "a")
}

// 15.2: what is no order, of as many as there are samples.
func TestExpandNoOrder(t *testing.T) {
	expand := ops()[1]
	for _, many := range []int{1, 2, 3, 4, 25, 26, 90} {
		l := some(many, 4)
		d := one(t, 900, l)
		for what, ends := range noOrders(len(read(t, d, "e.a"))) {
			d := put(gone(d, "e.a"), list("e.a", ends))
			d, _ = disk.Write(d, "raw", 1, all("w"))
			for _, fuse := range []int{-1, 0, 1, 5, 100} {
				isRefused(t, expand, what, fused(d, fuse), api.MinBudget, "to", api.ErrCode, "a", "e.a")
			}
			isOneOf(t, expand, what+", and no room", roomy(d, sectors(many)), api.MinBudget, []string{"a", "e.a"}, api.ErrCode, api.ErrFull)
			l[0] = 0
			zero := put(gone(d, "a"), list("a", l))
			isRefused(t, expand, what+", and a number that is 0", zero, api.MinBudget, "to", api.ErrCode, "a", "e.a")
			l[0] = 1
		}
	}
}

// 15.2: too few of ends, or too many: this comes behind the new file's errors, and ahead of all else that is wrong with numbers, and of room on the way.
func TestShort(t *testing.T) {
	expand := ops()[1]
	for _, many := range []int{0, 1, 2, 3, 4, 25, 26, 27, 90} {
		for _, at := range []uint64{0, 1} {
			l := slices.Concat([]uint64{at}, some(max(1, many), 4)[1:])[:many]
			samples, _ := names.Need(uint64(many))
			for _, more := range []int{-int(samples), -2, -1, 1, 2, 30} {
				if int(samples)+more < 0 || more == 0 {
					continue
				}
				for _, ends := range [][]uint64{rising(0, int(samples)+more), repeated(int(samples)+more, 7)} {
					d := with(t, 900, list("a", l), list("e.a", ends))
					for _, d := range []api.Disk{d, roomy(d, sectors(many)), fused(d, 0)} {
						isRefused(t, expand, "ends that are not as many", d, api.MinBudget, "to", api.ErrShort, "a", "e.a")
						isRefused(t, expand, "ends that are not as many, and no name", d, api.MinBudget, "", api.ErrRange, "a", "e.a")
					}
					isRefused(t, expand, "ends that are not as many, and no room", roomy(d, sectors(many)-1), api.MinBudget, "to", api.ErrFull, "a", "e.a")
				}
			}
		}
	}
}

// 15.2: of another order there is some file of as many numbers, and nothing else.
func TestOtherOrder(t *testing.T) {
	r := rand.New(rand.NewPCG(15, 2))
	for _, many := range []int{2, 3, 4, 5, 8, 25, 26, 60, 100} {
		for _, highest := range []uint64{1, 3, api.MaxNum - 1} {
			l := some(many, highest)
			d := one(t, 900, l)
			ends := read(t, d, "e.a")
			r.Shuffle(len(ends), func(i, j int) { ends[i], ends[j] = ends[j], ends[i] })
			d = put(gone(d, "e.a"), list("e.a", ends))
			got, c, e := levels.Expand(d, api.MinBudget, "a", "e.a", "to")
			if e != api.OK || len(read(t, got, "to")) != many || !alike(gone(got, "to"), d) || c.Frames > api.MinBudget {
				t.Fatalf("Expand of %d numbers by %v: error %d, a cost of %+v", many, ends, e, c)
			}
		}
	}
}

// 15.3: Inverse is of any order, and of that of an inverse what it was of.
func TestInverse(t *testing.T) {
	r := rand.New(rand.NewPCG(15, 3))
	for _, many := range []int{0, 1, 2, 3, 13, 102, 103, 400, 3000} {
		l := rising(0, many)
		r.Shuffle(many, func(i, j int) { l[i], l[j] = l[j], l[i] })
		d := with(t, 2000, list("a", l))
		got, _, e := levels.Inverse(d, api.MinBudget, "a", "b")
		back, _, f := levels.Inverse(got, 99, "b", "to")
		if e != api.OK || f != api.OK || !slices.Equal(read(t, got, "b"), inverse(l)) || !slices.Equal(read(t, back, "to"), l) {
			t.Fatalf("Inverse of %v: error %d, %v, and then error %d, %v", l, e, read(t, got, "b"), f, read(t, back, "to"))
		}
	}
}

// 15.1, 15.2, 15.3, chapter 7, words: errors are told ahead of all that is done: however much power there is, the disk is as it was.
func TestRefusedPower(t *testing.T) {
	d := one(t, 0, some(90, 5))
	for _, o := range ops() {
		need := needed(t, o, d, api.MinBudget, "a")
		for fuse := range 60 {
			d := fused(roomy(d, need), fuse)
			isRefused(t, o, "a name that is there", d, api.MinBudget, "raw", api.ErrTwice, o.files("a")...)
			isRefused(t, o, "no name", d, api.MinBudget, "", api.ErrRange, o.files("a")...)
			isRefused(t, o, "no such file", d, api.MinBudget, "to", api.ErrNone, o.files("none")...)
			isRefused(t, o, "no room", roomy(d, 1), api.MinBudget, "to", api.ErrFull, o.files("a")...)
			isRefused(t, o, "a sector less than is needed", roomy(d, need-1), api.MinBudget, "to", api.ErrFull, o.files("a")...)
		}
	}
}

// isCrashed holds what is behind a crash against what may be: the new file is whole, or has no head, or is not there; the others are as they were, but for those whose names begin with a tilde. It tells the disk without the new file, and whether that is whole.
func isCrashed(t *testing.T, what string, d api.Disk, keep []bool, whole, without api.Disk) (api.Disk, bool) {
	t.Helper()
	crashed, e := disk.Crash(d, keep...)
	if e != api.OK {
		t.Fatalf("%s: Crash: error %d", what, e)
	}
	_, _, e = recs.Head(crashed, "to")
	left := changed(crashed, func(d *api.Disk) {
		d.Extents = slices.DeleteFunc(d.Extents, func(x api.Extent) bool { return x.Name[0] == '~' && x.Name != "~" })
	})
	if e == api.OK && alike(left, whole) {
		return crashed, true
	}
	if e == api.ErrForm {
		crashed, left = gone(crashed, "to"), gone(left, "to")
	} else if e != api.ErrNone {
		t.Fatalf("%s: behind the crash: error %d", what, e)
	}
	if !alike(left, without) {
		t.Fatalf("%s: behind the crash: %v\nas it should be:\n%v", what, left, without)
	}
	return crashed, false
}

// isPowerless has an operation be done with power for so many writes; with an error the disk is as it is then. It tells whether all was done.
func isPowerless(t *testing.T, o op, d api.Disk, fuse int, name string, whole api.Disk) (api.Disk, api.Cost, bool) {
	t.Helper()
	got, c, e := o.do(fused(d, fuse), api.MinBudget, "to", o.files(name)...)
	if c.Frames < 1 || c.Frames > api.MinBudget {
		t.Fatalf("%s of %s, with power for %d writes: a cost of %+v", o.what, name, fuse, c)
	}
	if e == api.OK {
		if want := fused(whole, got.Fuse); !alike(got, want) || got.Fuse < 0 || c.Writes != uint64(fuse-got.Fuse) {
			t.Fatalf("%s of %s, with power for %d writes: a cost of %+v, %v\nas it should be:\n%v", o.what, name, fuse, c, got, want)
		}
		return got, c, true
	}
	if e != api.ErrPower || !got.Down || disk.Check(got) != api.OK || c.Writes != uint64(fuse+1) {
		t.Fatalf("%s of %s, with power for %d writes: error %d, a cost of %+v, %v", o.what, name, fuse, e, c, got)
	}
	return got, c, false
}

// 15.1, 15.2, 15.3, chapter 7, words: wherever the power goes, the error is told beside the disk as it is then, and what it cost so far; behind the crash the new file is whole, or has no head, or is not there. Done again, it comes to what it would have been.
func TestPower(t *testing.T) {
	for _, name := range []string{"a", "b", "n", "o", "w"} {
		for _, o := range ops() {
			without := synced(busy(t))
			whole, done, last := put(without, list("to", o.want(read(t, without, name)))), false, api.Cost{}
			for fuse := 0; !done; fuse++ {
				var got api.Disk
				var c api.Cost
				got, c, done = isPowerless(t, o, busy(t), fuse, name, whole)
				if c.Reads < last.Reads || c.Writes < last.Writes {
					t.Fatalf("%s of %s, with power for %d writes: a cost of %+v, for one less of %+v", o.what, name, fuse, c, last)
				}
				last = c
				for i, keep := range keeps(len(got.Waits)) {
					crashed, is := isCrashed(t, o.what, fused(got, -1), keep, whole, without)
					if !is && (i < 2 || i%5 == fuse%5) {
						isDone(t, o, "behind a crash", roomy(crashed, 600), api.MinBudget, name)
					}
				}
			}
		}
	}
}

// 15.1: where there are many levels, the power may go at any write.
func TestPowerLevels(t *testing.T) {
	l := some(400, 2)
	d := with(t, 1500, list("a", l))
	whole, done := put(d, list("to", ends(l))), false
	for fuse := 0; !done; fuse += 10 + fuse%31 {
		var got api.Disk
		got, _, done = isPowerless(t, ops()[0], d, fuse, "a", whole)
		if !done {
			isCrashed(t, "Array", got, slices.Repeat([]bool{fuse%2 == 0}, len(got.Waits)), whole, d)
		}
	}
}

// 15.4: what each call, refused or not, answers is its own, and what was handed in is as it was.
func TestNewMemory(t *testing.T) {
	for _, fuse := range []int{-1, 0, 20, 45} {
		for _, name := range []string{"a", "b", "n", "w", "none"} {
			for _, budget := range []int{api.MinBudget, api.MaxFrames, 1} {
				for _, o := range ops() {
					d, to := fused(busy(t), fuse), strings.Repeat("t", 2)
					d.Down = fuse == 45 && name == "b"
					got, _, _ := o.do(d, budget, to, o.files(name)...)
					again, _, _ := o.do(d, budget, to, o.files(name)...)
					if shares(got, d) || shares(got, again) || texts(got)[unsafe.StringData(to)] > 0 {
						t.Fatalf("%s of %s: what is answered is no new memory", o.what, name)
					}
					clear(got.Extents)
					clear(got.Waits)
					was := fused(busy(t), fuse)
					was.Down = d.Down
					if next, _, _ := o.do(d, budget, to, o.files(name)...); !alike(next, again) || !alike(d, was) {
						t.Fatalf("%s of %s: what was answered, or handed in, is kept", o.what, name)
					}
				}
			}
		}
	}
}

// P1, P3, P4: whatever is handed in, each call answers the same twice, and leaves no goroutine.
func TestWhatever(t *testing.T) {
	before := runtime.NumGoroutine()
	d := busy(t)
	wild := api.Disk{Extents: []api.Extent{{Name: "~2"}, {Name: "~10000"}, {}, {Name: "~1"}}, Waits: []api.Write{{Name: "~1", Sector: -1}}}
	disks := []api.Disk{{}, {Size: -1}, {Size: 3, Fuse: -1}, wild, d, changed(d, func(d *api.Disk) { d.Waits = nil }), fused(d, 2), changed(d, func(d *api.Disk) { d.Down = true })}
	r := rand.New(rand.NewPCG(15, 15))
	for range 60 {
		one := turned(d, []string{"b", "e.b", "o.b"}[r.IntN(3)], r.IntN(api.SectorSize+20))
		disks = append(disks, changed(one, func(d *api.Disk) { d.Fuse, d.Size = r.IntN(99)-2, d.Size-r.IntN(600) }))
	}
	names := []string{"", "a", "b", "n", "o", "raw", "none", "w", "~", "~10000", longest + "n", "e.a", "o.a", "e.b", "o.n", "e.o"}
	for _, d := range disks {
		for range 30 {
			from, ends, to := names[r.IntN(len(names))], names[r.IntN(len(names))], names[r.IntN(len(names))]
			budget := []int{-1, 0, api.MinBudget - 1, api.MinBudget, api.MinBudget, 99, api.MaxFrames, api.MaxFrames + 1}[r.IntN(8)]
			for _, o := range ops() {
				one, c, e := o.do(d, budget, to, from, ends)
				other, g, f := o.do(d, budget, to, from, ends)
				if !alike(one, other) || c != g || e != f {
					t.Fatalf("%s: error %d, and then %d", o.what, e, f)
				}
				if e != api.OK && e != api.ErrPower && c != (api.Cost{}) {
					t.Fatalf("%s: error %d beside a cost of %+v", o.what, e, c)
				}
			}
		}
	}
	if after := runtime.NumGoroutine(); after > before {
		t.Errorf("%d goroutines, where %d were", after, before)
	}
}
