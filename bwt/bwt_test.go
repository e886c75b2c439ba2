package bwt_test

import (
	"bytes"
	"math"
	"math/rand/v2"
	"runtime"
	"slices"
	"sort"
	"strconv"
	"strings"
	"testing"
	"unsafe"

	"wringer/api"
	"wringer/bwt"
	"wringer/disk"
	"wringer/order"
	"wringer/recs"
)

// ends is the order of a text's ends, held against each other one by one.
func ends(text string) []uint64 {
	places := rising(len(text))
	slices.SortFunc(places, func(a, b uint64) int { return strings.Compare(text[a:], text[b:]) })
	return places
}

// rising is the numbers from 0 on.
func rising(many int) []uint64 {
	l := make([]uint64, many)
	for i := range l {
		l[i] = uint64(i)
	}
	return l
}

// column is a text's column by an order of its ends, and the primary, by the words of chapter 12.
func column(text string, ends []uint64) (string, uint64) {
	column, primary := []byte{}, 0
	for row, place := range append([]uint64{uint64(len(text))}, ends...) {
		if place == 0 {
			primary = row
			continue
		}
		column = append(column, text[place-1])
	}
	return string(column), uint64(primary)
}

// set is a text's file, and beside it that of the order of its ends.
func set(name, text string) []file {
	return []file{textFile(name, text), list("o."+name, ends(text)...)}
}

// withSets is a disk with the sets of texts.
func withSets(t *testing.T, room int, texts map[string]string) api.Disk {
	t.Helper()
	files := []file{}
	for name, text := range texts {
		files = append(files, set(name, text)...)
	}
	return with(t, room, files...)
}

// one is a disk with the set of one text, called a.
func one(t *testing.T, room int, text string) api.Disk {
	t.Helper()
	return withSets(t, room, map[string]string{"a": text})
}

// busy is a disk with the sets of some texts, of which w and its order are wrong until what waits is done.
func busy(t *testing.T) api.Disk {
	t.Helper()
	d := withSets(t, 900, map[string]string{"a": "a banana, and one more banana", "b": strings.Repeat("b", 40), "n": "", "o": "o", "w": some(29, 3), "~": "tilde"})
	d, _ = disk.Write(d, "raw", 1, all("w"))
	for _, name := range []string{"w", "o.w"} {
		was, _ := disk.Read(d, name, 1)
		d, _ = disk.Write(d, name, 1, was)
		d = changed(d, func(d *api.Disk) {
			at := place(*d, name)
			d.Extents[at].Data = d.Extents[at].Data[:api.SectorSize] + all("\x00") + d.Extents[at].Data[2*api.SectorSize:]
		})
	}
	return d
}

// op is one of the package's calls, that are done of a text's set: of which files of it, what it should make of the text, and tell, and how many sectors it may need.
type op struct {
	what  string
	files func(name string) []string
	do    func(d api.Disk, budget int, to string, files ...string) (api.Disk, uint64, api.Cost, api.Errno)
	want  func(text string) (file, uint64)
	most  func(many int) int
}

// byEnds is the file of a text's column.
func byEnds(text string) (file, uint64) {
	column, primary := column(text, ends(text))
	return textFile("to", column), primary
}

// liftOp is Lift, turnOp Turn, and columnOp Column.
func liftOp() op {
	return op{
		what:  "Lift",
		files: func(name string) []string { return []string{name} },
		do: func(d api.Disk, budget int, to string, files ...string) (api.Disk, uint64, api.Cost, api.Errno) {
			d, c, e := bwt.Lift(d, budget, files[0], to)
			return d, 0, c, e
		},
		want: func(text string) (file, uint64) {
			l := []uint64{}
			for _, c := range []byte(text) {
				l = append(l, uint64(c)+1)
			}
			return list("to", l...), 0
		},
		most: listSectors,
	}
}
func turnOp() op {
	return op{
		what:  "Turn",
		files: func(name string) []string { return []string{name, "o." + name} },
		do: func(d api.Disk, budget int, to string, files ...string) (api.Disk, uint64, api.Cost, api.Errno) {
			return bwt.Turn(d, budget, files[0], files[1], to)
		},
		want: byEnds,
		most: func(many int) int { return 60*sectors(many) + 80 },
	}
}
func columnOp() op {
	return op{
		what:  "Column",
		files: func(name string) []string { return []string{name} },
		do: func(d api.Disk, budget int, to string, files ...string) (api.Disk, uint64, api.Cost, api.Errno) {
			return bwt.Column(d, budget, files[0], to)
		},
		want: byEnds,
		most: func(many int) int { return 280*sectors(many) + 400 },
	}
}

// ops are all of them.
func ops() []op { return []op{liftOp(), turnOp(), columnOp()} }

// needed is how many sectors an operation needs of a text's set on a disk, found by trying.
func needed(t *testing.T, o op, d api.Disk, budget int, name string) int {
	t.Helper()
	return sort.Search(o.most(len(read(t, d, name))), func(room int) bool {
		_, _, _, e := o.do(roomy(d, room), budget, "to", o.files(name)...)
		if e != api.OK && e != api.ErrFull {
			t.Fatalf("%s of %s: error %d", o.what, name, e)
		}
		return e == api.OK
	})
}

// isDone has an operation be done of a text's set, and nothing else.
func isDone(t *testing.T, o op, what string, d api.Disk, budget int, name string) {
	t.Helper()
	text := read(t, d, name)
	made, primary := o.want(text)
	want := put(synced(d), made)
	got, n, c, e := o.do(d, budget, "to", o.files(name)...)
	if !alike(got, want) || n != primary || e != api.OK {
		t.Fatalf("%s of %s, %s, under %d: error %d; %d, where it should be %d; %v\nas it should be:\n%v", o.what, name, what, budget, e, n, primary, got, want)
	}
	if c.Frames < 1 || c.Frames > budget || c.Writes < uint64(sectors(len(text))) || c.Reads < uint64(sectors(len(text))) {
		t.Fatalf("%s of %s, %s: a cost of %+v, of %d bytes and a budget of %d", o.what, name, what, c, len(text), budget)
	}
}

// isRefused has an operation tell an error, and the disk as it was: zero, if that is not right.
func isRefused(t *testing.T, o op, what string, d api.Disk, budget int, to string, want api.Errno, files ...string) {
	t.Helper()
	was := d
	if disk.Check(d) != api.OK {
		was = api.Disk{}
	}
	got, n, c, e := o.do(d, budget, to, files...)
	if !alike(got, was) || n != 0 || c != (api.Cost{}) || e != want {
		t.Fatalf("%s of %q to %q, %s: error %d, not %d; %d, a cost of %+v; %v\nas it was:\n%v", o.what, files, to, what, e, want, n, c, got, was)
	}
}

func TestExample(t *testing.T) {
	d := one(t, 200, "banana")
	for _, o := range ops()[1:] {
		got, primary, _, e := o.do(d, api.MinBudget, "to", o.files("a")...)
		if text := read(t, got, "to"); e != api.OK || text != "annbaa" || primary != 4 {
			t.Errorf("%s: error %d, %q, %d", o.what, e, text, primary)
		}
	}
	got, _, e := bwt.Lift(d, api.MinBudget, "a", "to")
	width, l, f := recs.Read(got, "to")
	if e != api.OK || f != api.OK || width != 1 || !slices.Equal(slices.Concat(l...), []uint64{99, 98, 111, 98, 111, 98}) {
		t.Errorf("Lift: error %d, and %d, %v", e, f, l)
	}
}

// 16.1, 16.2, 16.4: texts of many sizes, be they divided by 3 or not, with bytes of many kinds.
func TestSizes(t *testing.T) {
	for _, many := range []int{0, 1, 2, 3, 4, 5, 6, 7, 8, 12, 13, 14, 24, 25, 26, 27, 28, 38, 39, 40, 63, 64, 65, 127, 128, 129, 200} {
		for what, text := range shapes(many) {
			d := one(t, 3000, text)
			for _, o := range ops() {
				isDone(t, o, strconv.Itoa(many)+" bytes, "+what, d, api.MinBudget, "a")
				isDone(t, o, strconv.Itoa(many)+" bytes, "+what, d, 30, "a")
			}
		}
	}
}

// 16.1, 16.2: all short texts of few letters.
func TestAllShort(t *testing.T) {
	texts := []string{""}
	for i := 0; len(texts[i]) < 5; i++ {
		for _, c := range "\x00a\x7f" {
			texts = append(texts, texts[i]+string(c))
		}
	}
	for _, text := range texts {
		d := one(t, 60, text)
		for _, o := range ops() {
			isDone(t, o, strconv.Quote(text), d, api.MinBudget, "a")
		}
	}
}

// 16.2: texts of as many bytes as fit the budget at once, and one or two more.
func TestAtOnce(t *testing.T) {
	for _, budget := range []int{api.MinBudget, api.MinBudget + 1, 32, 33, 100, api.MaxFrames} {
		for more := -1; more <= 2; more++ {
			for _, letters := range []int{1, 2, 200} {
				text := some(api.SectorSize*(budget-8)/40+more, letters)
				d := one(t, 4000, text)
				for _, o := range ops() {
					isDone(t, o, strconv.Itoa(len(text))+" bytes", d, budget, "a")
				}
			}
		}
	}
}

// 16.1: each byte that there may be, and as many as a file may have.
func TestLift(t *testing.T) {
	text := make([]byte, 256)
	for i := range text {
		text[i] = byte(i)
	}
	isDone(t, liftOp(), "all bytes", with(t, 200, textFile("a", string(text))), api.MinBudget, "a")
	d := with(t, listSectors(api.MaxCount), textFile("a", some(api.MaxCount, 256)))
	for _, budget := range []int{api.MinBudget, api.MaxFrames} {
		isDone(t, liftOp(), "MaxCount bytes", d, budget, "a")
	}
}

// 16.4, P5: whatever the budget is, the disk that comes of it, and the primary, are the same.
func TestBudgets(t *testing.T) {
	for _, letters := range []int{1, 3, 256} {
		d := one(t, 4000, some(430, letters))
		for _, o := range ops() {
			isDone(t, o, "under the least", d, api.MinBudget, "a")
			want, primary, _, _ := o.do(d, api.MinBudget, "to", o.files("a")...)
			for budget := api.MinBudget + 1; budget <= api.MaxFrames; budget += 1 + budget/7 {
				got, n, c, e := o.do(d, budget, "to", o.files("a")...)
				if e != api.OK || !alike(got, want) || n != primary || c.Frames < 1 || c.Frames > budget {
					t.Fatalf("%s under %d: error %d, %d, a cost of %+v", o.what, budget, e, n, c)
				}
			}
			isDone(t, o, "under the most", d, api.MaxFrames, "a")
		}
	}
}

// 16.4: what comes of Column is what is told of the text in memory, up to the longest one there.
func TestAsInMemory(t *testing.T) {
	for _, text := range []string{"", "a", "aa", "ab", "ba", some(500, 2), some(1001, 1), strings.Repeat("abracadabra ", 80), some(api.MaxPlain-1, 20), some(api.MaxPlain, 2), some(api.MaxPlain, 256)} {
		d := with(t, 6000, textFile("a", text))
		want, primary, _ := order.Column(text)
		got, n, _, e := bwt.Column(d, api.MinBudget+len(text)%99, "a", "to")
		if e != api.OK || n != uint64(primary) || read(t, got, "to") != want {
			t.Fatalf("Column of %d bytes: error %d, %d, where it should be %d", len(text), e, n, primary)
		}
	}
}

// 16.2: a text that is far longer than what is looked at in memory; and of as many bytes as a file may have there is no room on any disk.
func TestMost(t *testing.T) {
	most := func(d api.Disk) api.Disk {
		return changed(d, func(d *api.Disk) { d.Size = api.MaxSectors })
	}
	isDone(t, columnOp(), "long", most(with(t, 0, textFile("a", some(14000, 7)))), api.MaxFrames, "a")
	isDone(t, turnOp(), "long", most(one(t, 0, some(20000, 7))), api.MaxFrames, "a")
	d := most(with(t, 0, textFile("a", some(api.MaxCount, 3)), list("o.a", rising(api.MaxCount)...)))
	for _, o := range ops()[1:] {
		isRefused(t, o, "MaxCount bytes", d, api.MinBudget, "to", api.ErrFull, o.files("a")...)
	}
}

// Chapter 16, words: there is never more room needed than is told; on a disk of 900 sectors, of which files take at most 20, there is room for at most eight bytes.
func TestRoomTold(t *testing.T) {
	for _, budget := range []int{api.MinBudget, api.MinBudget + 1, 60, api.MaxFrames} {
		for _, many := range []int{0, 1, 2, 3, 4, 13, 25, 26, 27, 60, 64, 65, 400, 1300} {
			text := some(many, 1+many%3)
			for _, o := range ops() {
				isDone(t, o, "with as much room as may be needed", one(t, o.most(many), text), budget, "a")
			}
		}
		for many := range 9 {
			d := changed(one(t, 0, some(many, 2)), func(d *api.Disk) { d.Size = 900 })
			d = put(d, list("x", rising(12*(20-used(d)-1))...))
			if used(d) != 20 {
				t.Fatalf("files take %d sectors", used(d))
			}
			for _, o := range ops() {
				isDone(t, o, "on a disk of 900 sectors", d, budget, "a")
			}
		}
	}
}

// 16.1, 16.2: just as much room as is needed, and any less: there is no file then, however much power there is.
func TestRoom(t *testing.T) {
	for _, budget := range []int{api.MinBudget, 31, api.MaxFrames} {
		for _, many := range []int{0, 1, 2, 3, 4, 12, 13, 25, 26, 64, 65, 240} {
			d := one(t, 0, some(many, 1+many%3))
			for _, o := range ops() {
				made, _ := o.want(read(t, d, "a"))
				need, least := needed(t, o, d, budget, "a"), len(body(made).Data)/api.SectorSize
				isDone(t, o, "with just as much room", roomy(d, need), budget, "a")
				for _, less := range []int{1, 2, 3, need - least, need - least + 1, need} {
					for _, fuse := range []int{-1, 0, 7} {
						if less > 0 && less <= need {
							isRefused(t, o, "with less room", fused(roomy(d, need-less), fuse), budget, "to", api.ErrFull, o.files("a")...)
						}
					}
				}
				if need < least {
					t.Fatalf("%s of %d bytes needs %d sectors", o.what, many, need)
				}
			}
		}
	}
}

// onTheWay are the names that have come, beside the new file's, when there is power for so many writes, of how many sectors all are that have come, and whether all is done.
func onTheWay(t *testing.T, o op, d api.Disk, fuse int, to string) ([]string, int, bool) {
	t.Helper()
	got, _, _, e := o.do(fused(d, fuse), api.MinBudget, to, o.files("a")...)
	if e != api.OK && e != api.ErrPower {
		t.Fatalf("%s, with power for %d writes: error %d", o.what, fuse, e)
	}
	come := []string{}
	for _, x := range got.Extents {
		if place(d, x.Name) < 0 && x.Name != to {
			come = append(come, x.Name)
		}
	}
	return come, used(got) - used(d), e == api.OK
}

// Chapter 16, words: as long as it is at work, other files have names that begin with a tilde, none of them the new one's, be that a name that they would have else; in the end they are no more. They have just as many sectors as are asked for ahead.
func TestOnTheWay(t *testing.T) {
	for _, o := range ops() {
		for _, text := range []string{"banana", strings.Repeat("x", 70), some(130, 2)} {
			d, seen, sectors := one(t, 2000, text), []string{}, 0
			done := false
			for fuse := 0; !done; fuse++ {
				var come []string
				var many int
				come, many, done = onTheWay(t, o, d, fuse, "to")
				if done && len(come) > 0 {
					t.Fatalf("%s: in the end there are %q", o.what, come)
				}
				seen, sectors = append(seen, come...), max(sectors, many)
			}
			if need := needed(t, o, d, api.MinBudget, "a"); sectors != need {
				t.Fatalf("%s: there are %d sectors on the way, where %d are asked for", o.what, sectors, need)
			}
			slices.Sort(seen)
			seen = slices.Compact(seen)
			if (len(seen) < 2) != (o.what == "Lift") || slices.ContainsFunc(seen, func(name string) bool { return name[0] != '~' }) {
				t.Fatalf("%s: on the way there are %q", o.what, seen)
			}
			for _, to := range seen {
				if come, _, done := onTheWay(t, o, d, -1, to); !done || len(come) > 0 {
					t.Fatalf("%s to %q: in the end there are %q", o.what, to, come)
				}
			}
		}
	}
}

// Chapter 16, words: names that others have, whatever they are, are not those of files on the way.
func TestTilde(t *testing.T) {
	text := some(60, 2)
	d := one(t, 0, text)
	for _, name := range []string{"~", "~~", "~0", "~1", "~10000", "~100000", "~100001", "~10001", "~10002x", "~10003\x00", "~99999", "~bwt"} {
		d = put(d, list(name, 3, 1, 2))
	}
	for _, f := range set("~10004"+longest[8:], text) {
		d = put(d, f)
	}
	for i := range 60 {
		d = put(d, list("~"+strconv.Itoa(10010+i)))
	}
	d = roomy(d, 2000)
	for _, o := range ops() {
		isDone(t, o, "where there are names with a tilde", d, api.MinBudget, "a")
		isDone(t, o, "of a name with a tilde", d, api.MinBudget, "~10004"+longest[8:])
		for _, to := range []string{"~10005", "~100050", "~100060", "~100070000", "~2", "~1000x", longest} {
			got, n, c, e := o.do(d, api.MinBudget, to, o.files("a")...)
			made, primary := o.want(text)
			made.name = to
			if e != api.OK || n != primary || !alike(got, put(d, made)) || c.Writes == 0 {
				t.Fatalf("%s to %q: error %d, %d, a cost of %+v", o.what, to, e, n, c)
			}
		}
	}
}

// 16.1, 16.2, chapter 7, words: where writes wait, what is seen is read, and all that waits is synced.
func TestWaits(t *testing.T) {
	for _, many := range []int{0, api.MaxWaits - 1, api.MaxWaits} {
		d := changed(busy(t), func(d *api.Disk) {
			more := slices.Repeat([]api.Write{{Name: "raw", Data: all("?")}}, max(0, many-len(d.Waits)))
			d.Waits = append(more, d.Waits...)
		})
		for _, name := range []string{"a", "b", "n", "o", "w", "~"} {
			for _, o := range ops() {
				isDone(t, o, "where writes wait", d, api.MinBudget, name)
				isDone(t, o, "where writes wait", d, 77, name)
			}
		}
	}
}

// 16.1, 16.2, chapter 7, words: what is behind a body is not asked.
func TestBehind(t *testing.T) {
	d := one(t, 600, some(30, 2))
	for name, size := range map[string]int{"a": 30, "o.a": 150} {
		i := place(d, name)
		for at := api.SectorSize + size; at < len(d.Extents[i].Data); at += 7 {
			d = turned(d, name, at)
		}
	}
	if _, e := recs.ReadText(d, "a"); e != api.ErrCode {
		t.Fatalf("what is behind a body is not 0: error %d", e)
	}
	for _, o := range ops() {
		isDone(t, o, "where there is something behind the bodies", d, api.MinBudget, "a")
	}
}

// wrongBudgets are budgets that are wrong, and what is told of them.
var wrongBudgets = []struct {
	budget int
	want   api.Errno
}{
	{api.MinBudget - 1, api.ErrBudget}, {8, api.ErrBudget}, {1, api.ErrBudget}, {0, api.ErrBudget}, {-1, api.ErrBudget}, {math.MinInt, api.ErrBudget},
	{api.MaxFrames + 1, api.ErrRange}, {1 << 20, api.ErrRange}, {math.MaxInt, api.ErrRange},
}

// 16.1, 16.2: a disk that is not right comes ahead of one without power, that of a budget, and that of all others.
func TestBudget(t *testing.T) {
	d := busy(t)
	bad := changed(d, func(d *api.Disk) { d.Size, d.Down = 1, true })
	down := changed(d, func(d *api.Disk) { d.Down, d.Fuse = true, 0 })
	for _, o := range ops() {
		for _, name := range []string{"a", "n", "w", "o.a", "none", "raw", ""} {
			for _, to := range []string{"to", "", "a"} {
				for _, budget := range []int{api.MinBudget, api.MaxFrames, api.MinBudget - 1, api.MaxFrames + 1, 0} {
					isRefused(t, o, "a disk that is not right", bad, budget, to, api.ErrForm, o.files(name)...)
					isRefused(t, o, "a disk without power", down, budget, to, api.ErrPower, o.files(name)...)
				}
				for _, l := range wrongBudgets {
					isRefused(t, o, "a budget of "+strconv.Itoa(l.budget), d, l.budget, to, l.want, o.files(name)...)
				}
			}
		}
	}
}

// wrong is a disk of which a file is none, and what is told of that.
type wrong struct {
	what string
	d    api.Disk
	want api.Errno
}

// wrongs are disks on which a file of some bytes, or records, is none.
func wrongs(d api.Disk, name string) []wrong {
	without := gone(d, name)
	raw, _ := disk.New(without, name, 2)
	waits, _ := disk.Write(d, name, 0, all("\x00"))
	resized := func(by func(data string) string) api.Disk {
		return changed(d, func(d *api.Disk) {
			at := place(*d, name)
			d.Extents[at].Data = by(d.Extents[at].Data)
		})
	}
	l := []wrong{
		{"no such file", without, api.ErrNone},
		{"no head", raw, api.ErrForm},
		{"no head, once what waits is done", waits, api.ErrForm},
		{"no mark", turned(d, name, 0), api.ErrForm},
		{"another width", turned(d, name, 2), api.ErrSum},
		{"another count", turned(d, name, 7), api.ErrSum},
		{"another sum", turned(d, name, 9), api.ErrSum},
		{"another end of the head", turned(d, name, 63), api.ErrForm},
		{"a sector too many", resized(func(data string) string { return data + all("\x00") }), api.ErrForm},
		{"a sector too few", resized(func(data string) string { return data[api.SectorSize:] }), api.ErrForm},
	}
	if name != "a" {
		return append(l, wrong{"a file of bytes", put(without, textFile(name, "xyz")), api.ErrCode}, wrong{"a file of no bytes", put(without, textFile(name, "")), api.ErrCode})
	}
	for width := 1; width <= api.MaxWidth; width++ {
		some := file{name: name, width: width, records: [][]uint64{make([]uint64, width)}}
		l = append(l, wrong{"a file of records", put(without, some), api.ErrCode}, wrong{"a file of no records", put(without, file{name: name, width: width}), api.ErrCode})
	}
	return l
}

// 16.1, 16.2: the error of the files comes ahead of that of the order's width and numbers, and of the new file's errors; that of the text's ahead of that of the order's.
func TestFilesWrong(t *testing.T) {
	d := one(t, 400, some(40, 3))
	for _, o := range ops() {
		for i, name := range o.files("a") {
			for _, l := range wrongs(d, name) {
				for _, to := range []string{"to", "", longest + "n", "raw"} {
					isRefused(t, o, l.what, l.d, api.MinBudget, to, l.want, o.files("a")...)
					isRefused(t, o, l.what+", and no room", roomy(l.d, 0), api.MaxFrames, to, l.want, o.files("a")...)
				}
				if i == 1 {
					isRefused(t, o, "no text, and "+l.what, gone(l.d, "a"), api.MinBudget, "to", api.ErrNone, o.files("a")...)
					isRefused(t, o, "a text that is none, and "+l.what, put(gone(l.d, "a"), list("a", 1)), api.MinBudget, "to", api.ErrCode, o.files("a")...)
				}
			}
		}
		for _, name := range []string{"", longest, longest + "n"} {
			isRefused(t, o, "no such file", d, api.MinBudget, "to", api.ErrNone, o.files(name)...)
		}
	}
}

// 16.1: an order of another width than 1 is none: this comes ahead of the new file's errors, and of how many there are, and which.
func TestWidthWrong(t *testing.T) {
	for width := 2; width <= api.MaxWidth; width++ {
		for _, records := range [][][]uint64{nil, {make([]uint64, width)}, {slices.Repeat([]uint64{1}, width), slices.Repeat([]uint64{0}, width)}} {
			d := put(gone(one(t, 0, "ab"), "o.a"), file{name: "o.a", width: width, records: records})
			for _, to := range []string{"to", "", longest + "n", "raw"} {
				isRefused(t, turnOp(), "another width", roomy(d, 300), api.MinBudget, to, api.ErrRange, "a", "o.a")
				isRefused(t, turnOp(), "another width, and no room", roomy(d, 0), api.MinBudget, to, api.ErrRange, "a", "o.a")
			}
		}
	}
}

// 16.1, 16.2: the new file's errors, in their order; they come ahead of what is wrong with how many numbers there are, and which.
func TestNewWrong(t *testing.T) {
	d := withSets(t, 0, map[string]string{"a": some(100, 3), "n": "", "o": "o"})
	d = put(put(d, textFile("z", "xyz")), list("o.z", 3, 3))
	d = roomy(d, 400)
	for _, o := range ops() {
		for _, name := range []string{"a", "n", "o", "z"} {
			for _, d := range []api.Disk{d, roomy(d, 0)} {
				isRefused(t, o, "no name", d, api.MinBudget, "", api.ErrRange, o.files(name)...)
				isRefused(t, o, "a name that is too long", d, api.MinBudget, longest+"n", api.ErrRange, o.files(name)...)
				for _, to := range []string{"a", "n", "o.o", "raw", "o.z"} {
					isRefused(t, o, "a name that is there", d, api.MinBudget, to, api.ErrTwice, o.files(name)...)
				}
			}
			made, _ := o.want(read(t, d, name))
			few := len(body(made).Data)/api.SectorSize - 1
			isRefused(t, o, "a sector less than the new file has", roomy(d, few), api.MinBudget, "to", api.ErrFull, o.files(name)...)
			isRefused(t, o, "no room", roomy(d, 0), api.MinBudget, "to", api.ErrFull, o.files(name)...)
		}
	}
}

// 16.1: too few of ends, or too many: this comes behind the new file's errors, and ahead of all else that is wrong with numbers, and of room on the way.
func TestShort(t *testing.T) {
	for _, many := range []int{0, 1, 2, 3, 25, 64, 65} {
		for _, more := range []int{-many, -2, -1, 1, 2, 30} {
			if many+more < 0 || more == 0 {
				continue
			}
			for _, ends := range [][]uint64{rising(many + more), slices.Repeat([]uint64{7}, many+more)} {
				d := with(t, 400, textFile("a", some(many, 4)), list("o.a", ends...))
				for _, d := range []api.Disk{d, roomy(d, sectors(many)), fused(d, 0)} {
					isRefused(t, turnOp(), "ends that are not as many", d, api.MinBudget, "to", api.ErrShort, "a", "o.a")
					isRefused(t, turnOp(), "ends that are not as many, and no name", d, api.MinBudget, "", api.ErrRange, "a", "o.a")
				}
				isRefused(t, turnOp(), "ends that are not as many, and no room", roomy(d, sectors(many)-1), api.MinBudget, "to", api.ErrFull, "a", "o.a")
			}
		}
	}
}

// 16.1: what is no order is told ahead of all that is done, however much power there is.
func TestNoOrder(t *testing.T) {
	for _, many := range []int{1, 2, 3, 17, 102, 103, 700} {
		for _, at := range []int{0, 1, many / 2, many - 1} {
			for _, number := range []uint64{uint64(many), uint64(many) + 1, api.MaxNum - 1, 0, uint64(many) - 1} {
				ends := rising(many)
				slices.Reverse(ends)
				if at >= many || ends[at] == number {
					continue
				}
				ends[at] = number
				d := with(t, 900, textFile("a", some(many, 5)), list("o.a", ends...))
				d, _ = disk.Write(d, "raw", 1, all("w"))
				for _, fuse := range []int{-1, 0, 1, 5, 100} {
					isRefused(t, turnOp(), "no order", fused(d, fuse), api.MinBudget, "to", api.ErrCode, "a", "o.a")
				}
				isRefused(t, turnOp(), "no order", d, api.MaxFrames, "to", api.ErrCode, "a", "o.a")
				_, _, _, e := bwt.Turn(roomy(d, sectors(many)), api.MinBudget, "a", "o.a", "to")
				if e != api.ErrCode && e != api.ErrFull {
					t.Fatalf("Turn by %v, with no room on the way: error %d", ends, e)
				}
				isRefused(t, turnOp(), "no order, and no room", roomy(d, sectors(many)), api.MinBudget, "to", e, "a", "o.a")
			}
		}
	}
}

// 16.1: the column by any order, be it that of the text's ends or not.
func TestOtherOrder(t *testing.T) {
	r := rand.New(rand.NewPCG(16, 1))
	for _, many := range []int{1, 2, 3, 4, 5, 25, 64, 102, 103, 400} {
		for range 4 {
			text, ends := some(many, 200), rising(many)
			r.Shuffle(many, func(i, j int) { ends[i], ends[j] = ends[j], ends[i] })
			d := with(t, 900, textFile("a", text), list("o.a", ends...))
			turn := turnOp()
			turn.want = func(text string) (file, uint64) {
				column, primary := column(text, ends)
				return textFile("to", column), primary
			}
			isDone(t, turn, "by another order", d, api.MinBudget, "a")
		}
	}
	d := with(t, 100, textFile("a", "banana"), list("o.a", rising(6)...))
	got, primary, _, e := bwt.Turn(d, api.MinBudget, "a", "o.a", "to")
	if text := read(t, got, "to"); e != api.OK || primary != 1 || text != "abanan" {
		t.Errorf("Turn by places that rise: error %d, %q, %d", e, text, primary)
	}
}

// 16.1, 16.2, chapter 7, words: errors are told ahead of all that is done: however much power there is, the disk is as it was.
func TestRefusedPower(t *testing.T) {
	d := one(t, 0, some(90, 5))
	for _, o := range ops() {
		need := needed(t, o, d, api.MinBudget, "a")
		for fuse := range 60 {
			d := fused(roomy(d, need), fuse)
			isRefused(t, o, "a name that is there", d, api.MinBudget, "raw", api.ErrTwice, o.files("a")...)
			isRefused(t, o, "no name", d, api.MinBudget, "", api.ErrRange, o.files("a")...)
			isRefused(t, o, "no such file", d, api.MinBudget, "to", api.ErrNone, o.files("none")...)
			isRefused(t, o, "no room", roomy(d, 1), api.MinBudget, "to", api.ErrFull, o.files("a")...)
			isRefused(t, o, "a sector less than is needed", roomy(d, need-1), api.MinBudget, "to", api.ErrFull, o.files("a")...)
		}
	}
}

// isCrashed holds what is behind a crash against what may be: the new file is whole, or has no head, or is not there; the others are as they were, but for those whose names begin with a tilde. It tells the disk without the new file, and whether that is whole.
func isCrashed(t *testing.T, what string, d api.Disk, keep []bool, whole, without api.Disk) (api.Disk, bool) {
	t.Helper()
	crashed, e := disk.Crash(d, keep...)
	if e != api.OK {
		t.Fatalf("%s: Crash: error %d", what, e)
	}
	_, _, e = recs.Head(crashed, "to")
	left := changed(crashed, func(d *api.Disk) {
		d.Extents = slices.DeleteFunc(d.Extents, func(x api.Extent) bool { return x.Name[0] == '~' && x.Name != "~" })
	})
	if e == api.OK && alike(left, whole) {
		return crashed, true
	}
	if e == api.ErrForm {
		crashed, left = gone(crashed, "to"), gone(left, "to")
	} else if e != api.ErrNone {
		t.Fatalf("%s: behind the crash: error %d", what, e)
	}
	if !alike(left, without) {
		t.Fatalf("%s: behind the crash: %v\nas it should be:\n%v", what, left, without)
	}
	return crashed, false
}

// isPowerless has an operation be done with power for so many writes; with an error the disk is as it is then. It tells whether all was done.
func isPowerless(t *testing.T, o op, d api.Disk, fuse int, name string, whole api.Disk) (api.Disk, api.Cost, bool) {
	t.Helper()
	got, n, c, e := o.do(fused(d, fuse), api.MinBudget, "to", o.files(name)...)
	if c.Frames < 1 || c.Frames > api.MinBudget {
		t.Fatalf("%s of %s, with power for %d writes: a cost of %+v", o.what, name, fuse, c)
	}
	if e == api.OK {
		_, primary := o.want(read(t, d, name))
		if want := fused(whole, got.Fuse); !alike(got, want) || n != primary || got.Fuse < 0 || c.Writes != uint64(fuse-got.Fuse) {
			t.Fatalf("%s of %s, with power for %d writes: %d, a cost of %+v, %v\nas it should be:\n%v", o.what, name, fuse, n, c, got, want)
		}
		return got, c, true
	}
	if e != api.ErrPower || n != 0 || !got.Down || disk.Check(got) != api.OK || c.Writes != uint64(fuse+1) {
		t.Fatalf("%s of %s, with power for %d writes: error %d, %d, a cost of %+v, %v", o.what, name, fuse, e, n, c, got)
	}
	return got, c, false
}

// 16.1, 16.2, chapter 7, words: wherever the power goes, the error is told beside the disk as it is then, and what it cost so far; behind the crash the new file is whole, or has no head, or is not there. Done again, it comes to what it would have been.
func TestPower(t *testing.T) {
	for _, name := range []string{"a", "b", "n", "o", "w"} {
		for _, o := range ops() {
			without := synced(busy(t))
			made, _ := o.want(read(t, without, name))
			whole, wholes, done, last := put(without, made), 0, false, api.Cost{}
			for fuse := 0; !done; fuse++ {
				var got api.Disk
				var c api.Cost
				got, c, done = isPowerless(t, o, busy(t), fuse, name, whole)
				if c.Reads < last.Reads || c.Writes < last.Writes {
					t.Fatalf("%s of %s, with power for %d writes: a cost of %+v, for one less of %+v", o.what, name, fuse, c, last)
				}
				last = c
				for i, keep := range keeps(len(got.Waits)) {
					crashed, is := isCrashed(t, o.what, fused(got, -1), keep, whole, without)
					if is {
						wholes++
					} else if i < 2 || i%5 == fuse%5 {
						isDone(t, o, "behind a crash", roomy(crashed, 900), api.MinBudget, name)
					}
				}
			}
			if wholes == 0 {
				t.Fatalf("%s of %s: the file is never whole behind a crash", o.what, name)
			}
		}
	}
}

// 16.2: where there are many levels, the power may go at any write.
func TestPowerLevels(t *testing.T) {
	text := strings.Repeat("banana, ", 40)
	d := with(t, 1500, textFile("a", text))
	made, _ := byEnds(text)
	whole, done := put(d, made), false
	for fuse := 0; !done; fuse += 10 + fuse%31 {
		var got api.Disk
		got, _, done = isPowerless(t, columnOp(), d, fuse, "a", whole)
		if !done {
			isCrashed(t, "Column", got, slices.Repeat([]bool{fuse%2 == 0}, len(got.Waits)), whole, d)
		}
	}
}

// 16.3: what each call, refused or not, answers is its own, and what was handed in is as it was.
func TestNewMemory(t *testing.T) {
	for _, fuse := range []int{-1, 0, 20, 45} {
		for _, name := range []string{"a", "b", "n", "w", "none"} {
			for _, budget := range []int{api.MinBudget, api.MaxFrames, 1} {
				for _, o := range ops() {
					d, to := fused(busy(t), fuse), strings.Repeat("t", 2)
					d.Down = fuse == 45 && name == "b"
					got, _, _, _ := o.do(d, budget, to, o.files(name)...)
					again, _, _, _ := o.do(d, budget, to, o.files(name)...)
					if shares(got, d) || shares(got, again) || texts(got)[unsafe.StringData(to)] > 0 {
						t.Fatalf("%s of %s: what is answered is no new memory", o.what, name)
					}
					clear(got.Extents)
					clear(got.Waits)
					was := fused(busy(t), fuse)
					was.Down = d.Down
					if next, _, _, _ := o.do(d, budget, to, o.files(name)...); !alike(next, again) || !alike(d, was) {
						t.Fatalf("%s of %s: what was answered, or handed in, is kept", o.what, name)
					}
				}
			}
		}
	}
}

// P1, P3, P4: whatever is handed in, each call answers the same twice, and leaves no goroutine.
func TestWhatever(t *testing.T) {
	before := runtime.NumGoroutine()
	d := busy(t)
	wild := api.Disk{Extents: []api.Extent{{Name: "~2"}, {Name: "~10000"}, {}, {Name: "~1"}}, Waits: []api.Write{{Name: "~1", Sector: -1}}}
	disks := []api.Disk{{}, {Size: -1}, {Size: 3, Fuse: -1}, wild, d, changed(d, func(d *api.Disk) { d.Waits = nil }), fused(d, 2), changed(d, func(d *api.Disk) { d.Down = true })}
	r := rand.New(rand.NewPCG(16, 16))
	for range 60 {
		one := turned(d, []string{"b", "o.b"}[r.IntN(2)], r.IntN(api.SectorSize+20))
		disks = append(disks, changed(one, func(d *api.Disk) { d.Fuse, d.Size = r.IntN(99)-2, d.Size-r.IntN(900) }))
	}
	names := []string{"", "a", "b", "n", "o", "raw", "none", "w", "~", "~10000", longest + "n", "o.a", "o.b", "o.n", "o.o", "o.w"}
	for _, d := range disks {
		for range 30 {
			text, ends, to := names[r.IntN(len(names))], names[r.IntN(len(names))], names[r.IntN(len(names))]
			budget := []int{-1, 0, api.MinBudget - 1, api.MinBudget, api.MinBudget, 99, api.MaxFrames, api.MaxFrames + 1}[r.IntN(8)]
			for _, o := range ops() {
				one, n, c, e := o.do(d, budget, to, text, ends)
				other, m, g, f := o.do(d, budget, to, text, ends)
				if !alike(one, other) || n != m || c != g || e != f {
					t.Fatalf("%s: error %d, and then %d", o.what, e, f)
				}
				if e != api.OK && (n != 0 || e != api.ErrPower && c != (api.Cost{})) {
					t.Fatalf("%s: error %d beside %d, and a cost of %+v", o.what, e, n, c)
				}
			}
		}
	}
	if after := runtime.NumGoroutine(); after > before {
		t.Errorf("%d goroutines, where %d were", after, before)
	}
}

// 16.2, P5: a column's bytes are those of its text.
func TestSameBytes(t *testing.T) {
	for _, many := range []int{1, 2, 30, 300, 1000} {
		text := some(many, 9)
		got, _, _, e := bwt.Column(with(t, 3000, textFile("a", text)), api.MinBudget, "a", "to")
		one, other := []byte(text), []byte(read(t, got, "to"))
		slices.Sort(one)
		slices.Sort(other)
		if e != api.OK || !bytes.Equal(one, other) {
			t.Fatalf("Column of %q: error %d, %q", text, e, read(t, got, "to"))
		}
	}
}
