package recs_test

import (
	"encoding/binary"
	"hash/crc32"
	"math"
	"math/rand/v2"
	"runtime"
	"slices"
	"strconv"
	"strings"
	"testing"
	"unsafe"

	"wringer/api"
	"wringer/disk"
	"wringer/recs"
)

// longest is a name of MaxName bytes.
var longest = strings.Repeat("n", api.MaxName)

// all is a sector that has nothing but c.
func all(c string) string { return strings.Repeat(c, api.SectorSize) }

// zeros is n bytes of 0.
func zeros(n int) string { return strings.Repeat("\x00", n) }

// five is a number's five bytes.
func five(n uint64) string { return string(binary.BigEndian.AppendUint64(nil, n)[3:]) }

// fives is all records' five bytes, one behind the other.
func fives(l [][]uint64) string {
	b := new(strings.Builder)
	for _, n := range slices.Concat(l...) {
		b.WriteString(five(n))
	}
	return b.String()
}

// head is a head's sector, of any width and count, be there such a file or not.
func head(width byte, count uint64) string {
	s := "WR" + string([]byte{width}) + five(count)
	s += string(binary.LittleEndian.AppendUint32(nil, crc32.ChecksumIEEE([]byte(s))))
	return s + zeros(api.SectorSize-len(s))
}

// file is a file's bytes.
func file(width byte, count uint64, body string) string {
	behind := (api.SectorSize - len(body)%api.SectorSize) % api.SectorSize
	return head(width, count) + body + zeros(behind)
}

// some makes records, the same at each run.
func some(width, many int) [][]uint64 {
	r := rand.New(rand.NewPCG(uint64(width), uint64(many)))
	l := make([][]uint64, many)
	for i := range l {
		for range width {
			l[i] = append(l[i], r.Uint64()>>(24+r.IntN(40)))
		}
	}
	return l
}

// text makes bytes, the same at each run, none of them 0.
func text(n int) string {
	r := rand.New(rand.NewPCG(6, uint64(n)))
	b := make([]byte, n)
	for i := range b {
		b[i] = byte(1 + r.IntN(255))
	}
	return string(b)
}

// with is a disk on which there is just one extent, f, and some room.
func with(data string) api.Disk {
	return api.Disk{Size: len(data)/api.SectorSize + 3, Extents: []api.Extent{{Name: "f", Data: data}}, Fuse: -1}
}

// busy is a disk of 20 sectors on which there is an extent already, and a write waits.
func busy() api.Disk {
	return api.Disk{
		Size:    20,
		Extents: []api.Extent{{Name: "b", Data: all("1") + all("2")}},
		Waits:   []api.Write{{Name: "b", Sector: 1, Data: all("w")}},
		Fuse:    -1,
	}
}

// changed is the busy disk with something done to it by hand.
func changed(by func(d *api.Disk)) api.Disk {
	d := busy()
	by(&d)
	return d
}

// alike holds two disks against each other; nil and empty lists are alike.
func alike(a, b api.Disk) bool {
	return a.Size == b.Size && a.Fuse == b.Fuse && a.Down == b.Down && slices.Equal(a.Extents, b.Extents) && slices.Equal(a.Waits, b.Waits)
}

// isDisk holds a disk and an error against what they should be.
func isDisk(t *testing.T, what string, got api.Disk, e api.Errno, want api.Disk, wantE api.Errno) {
	t.Helper()
	if !alike(got, want) || e != wantE {
		t.Fatalf("%s: error %d, not %d; %+v\nas it should be:\n%+v", what, e, wantE, got, want)
	}
}

// isHead holds what Head tells against what it should.
func isHead(t *testing.T, what string, d api.Disk, name string, wantWidth int, wantCount uint64, wantE api.Errno) {
	t.Helper()
	width, count, e := recs.Head(d, name)
	if width != wantWidth || count != wantCount || e != wantE {
		t.Fatalf("Head of %s: %d, %d, error %d; not %d, %d, error %d, as it should be", what, width, count, e, wantWidth, wantCount, wantE)
	}
}

// isRead holds what Read tells against what it should.
func isRead(t *testing.T, what string, d api.Disk, name string, wantWidth int, want [][]uint64, wantE api.Errno) {
	t.Helper()
	width, l, e := recs.Read(d, name)
	if width != wantWidth || e != wantE || !slices.EqualFunc(l, want, slices.Equal[[]uint64]) {
		t.Fatalf("Read of %s: %d, %v, error %d; not %d, %v, error %d, as it should be", what, width, l, e, wantWidth, want, wantE)
	}
}

// isText holds what ReadText tells against what it should.
func isText(t *testing.T, what string, d api.Disk, name, want string, wantE api.Errno) {
	t.Helper()
	got, e := recs.ReadText(d, name)
	if got != want || e != wantE {
		t.Fatalf("ReadText of %s: %q, error %d; not %q, error %d, as it should be", what, got, e, want, wantE)
	}
}

func TestExample(t *testing.T) {
	n, e := recs.Need(1, 2)
	if n != 2 || e != api.OK {
		t.Fatalf("two records of width 1: %d sectors, error %d", n, e)
	}
	d, _ := disk.Make(2)
	d, e = recs.Write(d, "f", 1, [][]uint64{{7}, {9}})
	isDisk(t, "two records of width 1", d, e, api.Disk{Size: 2, Extents: []api.Extent{{Name: "f", Data: file(1, 2, five(7)+five(9))}}, Fuse: -1}, api.OK)
}

// 6.1
func TestNeed(t *testing.T) {
	for _, l := range []struct {
		width int
		count uint64
		want  int
	}{
		{0, 0, 1}, {0, 1, 2}, {0, 63, 2}, {0, 64, 2}, {0, 65, 3}, {0, 128, 3}, {0, 129, 4}, {0, api.MaxCount, 1025}, {0, api.MaxCount - 1, 1025},
		{1, 0, 1}, {1, 1, 2}, {1, 12, 2}, {1, 13, 3}, {1, 64, 6}, {1, 65, 7}, {1, api.MaxCount, 5121},
		{8, 0, 1}, {8, 1, 2}, {8, 2, 3}, {8, 8, 6}, {8, 9, 7}, {8, api.MaxCount, 40961}, {3, 64, 16}, {3, 65, 17},
	} {
		n, e := recs.Need(l.width, l.count)
		if n != l.want || e != api.OK {
			t.Errorf("Need of %d of width %d: %d, error %d; not %d", l.count, l.width, n, e, l.want)
		}
	}
	for width := 1; width <= api.MaxWidth; width++ {
		for count := range 300 {
			n, e := recs.Need(width, uint64(count))
			if want := len(file(0, 0, zeros(5*width*count))) / api.SectorSize; n != want || e != api.OK {
				t.Errorf("Need of %d of width %d: %d, error %d; not %d", count, width, n, e, want)
			}
		}
	}
	for _, width := range []int{-1, api.MaxWidth + 1, math.MinInt, math.MaxInt} {
		for _, count := range []uint64{0, 1, api.MaxCount + 1} {
			if n, e := recs.Need(width, count); n != 0 || e != api.ErrRange {
				t.Errorf("Need of width %d: %d, error %d", width, n, e)
			}
		}
	}
	for _, count := range []uint64{api.MaxCount + 1, 1 << 40, 1 << 63, math.MaxUint64} {
		for width := range api.MaxWidth + 1 {
			if n, e := recs.Need(width, count); n != 0 || e != api.ErrRange {
				t.Errorf("Need of %d: %d, error %d", count, n, e)
			}
		}
	}
}

// 6.1
func TestHead(t *testing.T) {
	isHead(t, "an empty text", with(file(0, 0, "")), "f", 0, 0, api.OK)
	isHead(t, "no records", with(file(8, 0, "")), "f", 8, 0, api.OK)
	isHead(t, "a text of just a sector", with(file(0, 64, all("x"))), "f", 0, 64, api.OK)
	isHead(t, "records of just five sectors", with(file(1, 64, zeros(320))), "f", 1, 64, api.OK)
	isHead(t, "what is behind the body is not asked", with(file(1, 1, all("x"))), "f", 1, 1, api.OK)
	isHead(t, "the most bytes", with(file(0, api.MaxCount, zeros(api.MaxCount))), "f", 0, api.MaxCount, api.OK)
	d := with(all("?") + zeros(64))
	d.Waits = []api.Write{{Name: "f", Data: head(2, 6)}}
	isHead(t, "a head that waits", d, "f", 2, 6, api.OK)
}

// turned is a text with one byte that is another.
func turned(s string, at int) string { return s[:at] + string([]byte{s[at] ^ 1}) + s[at+1:] }

// 6.1: the errors of a head, in the order in which they are told.
func TestHeadWrong(t *testing.T) {
	good := file(1, 2, five(1)+five(2))
	for i := range api.SectorSize {
		want := api.ErrSum
		if i < 2 || i >= 12 {
			want = api.ErrForm
		}
		isHead(t, "byte "+strconv.Itoa(i)+" turned", with(turned(good, i)), "f", 0, 0, want)
	}
	for what, l := range map[string]struct {
		data string
		want api.Errno
	}{
		"a sum that is wrong, and 0 behind it that is not":   {turned(turned(good, 9), 12), api.ErrForm},
		"a sum that is wrong, and no mark":                   {turned(turned(good, 9), 0), api.ErrForm},
		"a sum that is wrong, and too wide":                  {turned(file(9, 0, ""), 9), api.ErrForm},
		"a sum that is wrong, and too many":                  {turned(file(0, api.MaxCount+1, ""), 9), api.ErrSum},
		"a sum that is wrong, and not as many sectors":       {turned(file(1, 13, five(1)), 9), api.ErrSum},
		"the sum's bytes, the highest first":                 {good[:8] + string([]byte{good[11], good[10], good[9], good[8]}) + good[12:], api.ErrSum},
		"one past MaxWidth":                                  {file(9, 0, ""), api.ErrForm},
		"as wide as a byte can tell":                         {file(255, 0, ""), api.ErrForm},
		"one past MaxCount":                                  {file(0, api.MaxCount+1, zeros(api.MaxCount+1)), api.ErrForm},
		"as many as can be told":                             {file(0, 1<<40-1, ""), api.ErrForm},
		"as many as can be told, of width 8":                 {file(8, 1<<40-1, ""), api.ErrForm},
		"not as many sectors":                                {file(1, 13, five(1)), api.ErrForm},
		"no body":                                            {file(0, 1, ""), api.ErrForm},
		"a sector too many":                                  {good + zeros(64), api.ErrForm},
		"a sector where there are no records":                {file(1, 0, "") + zeros(64), api.ErrForm},
		"a sector behind a body that just fills its sectors": {file(0, 64, all("x")) + zeros(64), api.ErrForm},
		"nothing but 0":                                      {zeros(128), api.ErrForm},
		"the other letters":                                  {"wr" + good[2:], api.ErrForm},
		"a mark alone":                                       {"WR" + zeros(62), api.ErrSum},
	} {
		isHead(t, what, with(l.data), "f", 0, 0, l.want)
		isRead(t, what, with(l.data), "f", 0, nil, l.want)
		isText(t, what, with(l.data), "f", "", l.want)
	}
}

// 6.1: disk.Read's errors come first.
func TestHeadNone(t *testing.T) {
	good := with(file(1, 1, five(7)))
	wrong, down := good, good
	wrong.Size = 1
	down.Down = true
	for _, l := range []struct {
		d    api.Disk
		name string
		want api.Errno
	}{
		{good, "", api.ErrNone}, {good, "none", api.ErrNone}, {good, "F", api.ErrNone}, {good, longest + "n", api.ErrNone},
		{wrong, "f", api.ErrForm}, {wrong, "none", api.ErrForm}, {down, "f", api.ErrPower}, {down, "none", api.ErrPower},
	} {
		isHead(t, l.name, l.d, l.name, 0, 0, l.want)
		isRead(t, l.name, l.d, l.name, 0, nil, l.want)
		isText(t, l.name, l.d, l.name, "", l.want)
	}
}

// written is the busy disk with a file's extent, all that waited being done.
func written(name, data string) api.Disk {
	d, _ := disk.Sync(busy())
	d, _ = disk.New(d, name, len(data)/api.SectorSize)
	at := slices.IndexFunc(d.Extents, func(x api.Extent) bool { return x.Name == name })
	d.Extents[at].Data = data
	return d
}

// 6.2
func TestWrite(t *testing.T) {
	for width := 1; width <= api.MaxWidth; width++ {
		for _, many := range []int{0, 1, 2, 3, 12, 13, 20} {
			l := some(width, many)
			d, e := recs.Write(busy(), "f", width, l)
			want := file(byte(width), uint64(many), fives(l))
			if len(want)/api.SectorSize > 18 {
				isDisk(t, "Write without room", d, e, busy(), api.ErrFull)
				continue
			}
			isDisk(t, "Write", d, e, written("f", want), api.OK)
		}
	}
	most := [][]uint64{slices.Repeat([]uint64{api.MaxNum - 1}, api.MaxWidth)}
	d, e := recs.Write(busy(), longest, api.MaxWidth, most)
	isDisk(t, "the highest numbers", d, e, written(longest, head(8, 1)+strings.Repeat("\xff", 40)+zeros(24)), api.OK)
	d, e = recs.Write(busy(), "a", 1, slices.Repeat([][]uint64{{5}}, 64))
	isDisk(t, "records that just fill their sectors", d, e, written("a", head(1, 64)+strings.Repeat(five(5), 64)), api.OK)
}

// 6.2
func TestWriteText(t *testing.T) {
	for _, n := range []int{0, 1, 63, 64, 65, 128, 1087, 1088} {
		d, e := recs.WriteText(busy(), "f", text(n))
		isDisk(t, "WriteText", d, e, written("f", file(0, uint64(n), text(n))), api.OK)
	}
	d, e := recs.WriteText(busy(), "f", text(1089))
	isDisk(t, "WriteText without room", d, e, busy(), api.ErrFull)
	d, e = recs.WriteText(busy(), "f", zeros(70))
	isDisk(t, "a text of 0", d, e, written("f", file(0, 70, zeros(70))), api.OK)
	big, _ := disk.Make(1025)
	big, e = recs.WriteText(big, "f", text(api.MaxCount))
	isDisk(t, "the most bytes", big, e, api.Disk{Size: 1025, Extents: []api.Extent{{Name: "f", Data: file(0, api.MaxCount, text(api.MaxCount))}}, Fuse: -1}, api.OK)
	isText(t, "the most bytes", big, "f", text(api.MaxCount), api.OK)
}

// 6.2: what is no list of records, or too long, is told ahead of what else is wrong, beside the disk as it was; one that is not right is zero.
func TestWriteRange(t *testing.T) {
	one := [][]uint64{{1}}
	bad := changed(func(d *api.Disk) { d.Size = 1 })
	down := changed(func(d *api.Disk) { d.Down = true })
	for _, from := range []api.Disk{busy(), bad, down} {
		want := from
		if disk.Check(from) != api.OK {
			want = api.Disk{}
		}
		for _, name := range []string{"", "b", "f", longest + "n"} {
			for _, l := range []struct {
				width int
				l     [][]uint64
			}{
				{0, one}, {0, nil}, {-1, nil}, {api.MaxWidth + 1, nil}, {math.MinInt, nil}, {math.MaxInt, one},
				{api.MaxWidth + 1, some(api.MaxWidth+1, 1)}, {0, [][]uint64{{}}}, {1, [][]uint64{{}}}, {1, [][]uint64{{1}, nil}},
				{1, [][]uint64{{1, 2}}}, {2, [][]uint64{{1, 2}, {3}}}, {2, [][]uint64{{1, 2}, {3, 4, 5}}}, {8, some(9, 1)},
				{1, [][]uint64{{api.MaxNum}}}, {2, [][]uint64{{1, 2}, {3, math.MaxUint64}}}, {1, slices.Repeat(one, api.MaxCount+1)},
			} {
				d, e := recs.Write(from, name, l.width, l.l)
				isDisk(t, "Write out of range", d, e, want, api.ErrRange)
			}
			d, e := recs.WriteText(from, name, zeros(api.MaxCount+1))
			isDisk(t, "WriteText out of range", d, e, want, api.ErrRange)
		}
	}
	d, e := recs.Write(busy(), "f", 1, slices.Repeat(one, api.MaxCount))
	isDisk(t, "as many as there may be, without room", d, e, busy(), api.ErrFull)
}

// 6.2: disk.New's errors, beside the disk as it was.
func TestWriteWrong(t *testing.T) {
	bad := changed(func(d *api.Disk) { d.Size = 1 })
	down := changed(func(d *api.Disk) { d.Down = true })
	full := changed(func(d *api.Disk) { d.Size = 4 })
	for _, l := range []struct {
		what string
		d    api.Disk
		name string
		want api.Disk
		e    api.Errno
	}{
		{"no disk", bad, "f", api.Disk{}, api.ErrForm},
		{"no disk and no name", bad, "", api.Disk{}, api.ErrForm},
		{"no power", down, "f", down, api.ErrPower},
		{"no power and no name", down, "", down, api.ErrPower},
		{"no name", busy(), "", busy(), api.ErrRange},
		{"a name that is too long", busy(), longest + "n", busy(), api.ErrRange},
		{"a name that there is", busy(), "b", busy(), api.ErrTwice},
		{"a name that there is, and no room", full, "b", full, api.ErrTwice},
		{"no room", full, "f", full, api.ErrFull},
	} {
		d, e := recs.Write(l.d, l.name, 1, some(1, 13))
		isDisk(t, "Write: "+l.what, d, e, l.want, l.e)
		d, e = recs.WriteText(l.d, l.name, text(65))
		isDisk(t, "WriteText: "+l.what, d, e, l.want, l.e)
	}
	d, e := recs.WriteText(full, "f", text(64))
	isDisk(t, "just as much room", d, e, func() api.Disk {
		d := written("f", file(0, 64, text(64)))
		d.Size = 4
		return d
	}(), api.OK)
}

// cases are writes of files, and the files' bytes.
func cases() []struct {
	write func(d api.Disk) (api.Disk, api.Errno)
	data  string
} {
	records := func(width, many int) func(d api.Disk) (api.Disk, api.Errno) {
		return func(d api.Disk) (api.Disk, api.Errno) { return recs.Write(d, "f", width, some(width, many)) }
	}
	bytes := func(n int) func(d api.Disk) (api.Disk, api.Errno) {
		return func(d api.Disk) (api.Disk, api.Errno) { return recs.WriteText(d, "f", text(n)) }
	}
	return []struct {
		write func(d api.Disk) (api.Disk, api.Errno)
		data  string
	}{
		{records(1, 0), file(1, 0, "")},
		{records(1, 13), file(1, 13, fives(some(1, 13)))},
		{records(8, 8), file(8, 8, fives(some(8, 8)))},
		{bytes(0), file(0, 0, "")},
		{bytes(64), file(0, 64, text(64))},
		{bytes(200), file(0, 200, text(200))},
	}
}

// sectors are those of a file's bytes.
func sectors(data string) []string {
	l := []string{}
	for ; data != ""; data = data[api.SectorSize:] {
		l = append(l, data[:api.SectorSize])
	}
	return l
}

// 6.2: the body's sectors are written in order, and synced, then the head: where the power goes, the disk is told as it is then.
func TestWriteFuse(t *testing.T) {
	for _, c := range cases() {
		l := sectors(c.data)
		for fuse := range len(l) + 2 {
			want := changed(func(d *api.Disk) { d.Fuse = fuse })
			want, _ = disk.New(want, "f", len(l))
			wantE := api.OK
			for i := 1; i < len(l) && wantE == api.OK; i++ {
				want, wantE = disk.Write(want, "f", i, l[i])
			}
			want, _ = disk.Sync(want)
			if wantE == api.OK {
				want, wantE = disk.Write(want, "f", 0, l[0])
				want, _ = disk.Sync(want)
			}
			d, e := c.write(changed(func(d *api.Disk) { d.Fuse = fuse }))
			isDisk(t, "Write with a fuse of "+strconv.Itoa(fuse), d, e, want, wantE)
			if (e == api.OK) != (fuse >= len(l)) {
				t.Fatalf("%d sectors with power for %d: error %d", len(l), fuse, e)
			}
		}
	}
}

// 6.2: a disk on which there is no room for writes that wait.
func TestWriteWaits(t *testing.T) {
	for room := range 5 {
		from := changed(func(d *api.Disk) { d.Waits = slices.Repeat(d.Waits, api.MaxWaits-room) })
		want, _ := disk.New(from, "f", 5)
		wantE := api.OK
		for i, s := range sectors(file(0, 200, text(200)))[1:] {
			if i >= room {
				wantE = api.ErrFull
				break
			}
			want.Waits = append(want.Waits, api.Write{Name: "f", Sector: i + 1, Data: s})
		}
		if wantE == api.OK {
			want = written("f", file(0, 200, text(200)))
		}
		d, e := recs.WriteText(from, "f", text(200))
		isDisk(t, "Write where "+strconv.Itoa(api.MaxWaits-room)+" wait", d, e, want, wantE)
	}
	d, e := recs.WriteText(changed(func(d *api.Disk) { d.Waits = slices.Repeat(d.Waits, api.MaxWaits) }), "f", "")
	isDisk(t, "no body: what waits is synced ahead of the head", d, e, written("f", file(0, 0, "")), api.OK)
}

// 6.3
func TestRead(t *testing.T) {
	for width := 1; width <= api.MaxWidth; width++ {
		for _, many := range []int{0, 1, 2, 8, 12, 13, 64, 65, 200} {
			l := some(width, many)
			d := with(file(byte(width), uint64(many), fives(l)))
			isRead(t, "records", d, "f", width, l, api.OK)
			isText(t, "records", d, "f", "", api.ErrCode)
		}
	}
	isRead(t, "records of 0", with(file(2, 9, zeros(90))), "f", 2, slices.Repeat([][]uint64{{0, 0}}, 9), api.OK)
	d := with(file(1, 1, five(1)))
	d.Waits = []api.Write{{Name: "f", Sector: 1, Data: all("?")}, {Name: "f", Sector: 1, Data: five(2) + zeros(59)}}
	isRead(t, "records that wait", d, "f", 1, [][]uint64{{2}}, api.OK)
}

// 6.3
func TestReadText(t *testing.T) {
	for _, n := range []int{0, 1, 63, 64, 65, 128, 129, 1000} {
		d := with(file(0, uint64(n), text(n)))
		isText(t, "a text", d, "f", text(n), api.OK)
		isRead(t, "a text", d, "f", 0, nil, api.ErrCode)
	}
	isText(t, "a text of 0", with(file(0, 70, zeros(70))), "f", zeros(70), api.OK)
	d := with(file(0, 1, "a"))
	d.Waits = []api.Write{{Name: "f", Sector: 1, Data: "b" + zeros(63)}}
	isText(t, "a text that waits", d, "f", "b", api.OK)
}

// 6.3: behind the body there is nothing but 0.
func TestReadBehind(t *testing.T) {
	for _, many := range []int{1, 11, 12, 13, 64} {
		good := file(1, uint64(many), fives(some(1, many)))
		for at := api.SectorSize + 5*many; at < len(good); at++ {
			isRead(t, "what is not 0 behind it", with(turned(good, at)), "f", 0, nil, api.ErrCode)
			isHead(t, "what is not 0 behind it", with(turned(good, at)), "f", 1, uint64(many), api.OK)
		}
	}
	for _, n := range []int{1, 63, 64, 65} {
		good := file(0, uint64(n), text(n))
		for at := api.SectorSize + n; at < len(good); at++ {
			isText(t, "what is not 0 behind it", with(turned(good, at)), "f", "", api.ErrCode)
		}
	}
	isRead(t, "a text, and what is not 0 behind it", with(turned(file(0, 1, "a"), 70)), "f", 0, nil, api.ErrCode)
	isText(t, "records, and what is not 0 behind them", with(turned(file(1, 1, five(1)), 70)), "f", "", api.ErrCode)
}

// shares tells whether two disks share a list or a text.
func shares(a, b api.Disk) bool {
	of := map[*byte]int{}
	for _, x := range a.Extents {
		of[unsafe.StringData(x.Name)]++
		of[unsafe.StringData(x.Data)]++
	}
	for _, one := range a.Waits {
		of[unsafe.StringData(one.Name)]++
		of[unsafe.StringData(one.Data)]++
	}
	for _, x := range b.Extents {
		if of[unsafe.StringData(x.Name)]+of[unsafe.StringData(x.Data)] > 0 {
			return true
		}
	}
	return len(a.Extents)*len(b.Extents) > 0 && &a.Extents[0] == &b.Extents[0] || len(a.Waits)*len(b.Waits) > 0 && &a.Waits[0] == &b.Waits[0]
}

// 6.4: what each call, refused or not, answers is its own, and what was handed in is as it was.
func TestNewMemory(t *testing.T) {
	for _, by := range []func(d *api.Disk){func(*api.Disk) {}, func(d *api.Disk) { d.Fuse = 1 }, func(d *api.Disk) { d.Size = 4 }, func(d *api.Disk) { d.Down = true }} {
		for _, c := range cases() {
			from := changed(by)
			d, _ := c.write(from)
			again, _ := c.write(from)
			if shares(d, from) || shares(d, again) {
				t.Error("Write: what is answered is no new memory")
			}
			clear(d.Extents)
			clear(d.Waits)
			if next, _ := c.write(from); !alike(next, again) || !alike(from, changed(by)) {
				t.Error("Write: what was answered, or handed in, is kept")
			}
		}
	}
	refused := busy()
	d1, _ := recs.Write(refused, "f", 0, nil)
	d2, _ := recs.WriteText(refused, "f", zeros(api.MaxCount+1))
	if shares(d1, refused) || shares(d2, refused) || shares(d1, d2) {
		t.Error("Write, refused: what is answered is no new memory")
	}
	name, s, l := strings.Repeat("f", 1), text(64), some(3, 40)
	d, _ := recs.WriteText(busy(), name, s)
	if unsafe.StringData(d.Extents[1].Name) == unsafe.StringData(name) {
		t.Error("a name that is handed in is kept")
	}
	if got, _ := recs.ReadText(d, name); unsafe.StringData(got) == unsafe.StringData(s) || unsafe.StringData(got) == unsafe.StringData(d.Extents[1].Data[64:]) {
		t.Error("ReadText: what is answered is no new memory")
	}
	d, _ = recs.Write(d, "g", 3, l)
	if !slices.EqualFunc(l, some(3, 40), slices.Equal[[]uint64]) {
		t.Error("records that were handed in have changed")
	}
	_, got, _ := recs.Read(d, "g")
	for i := range got {
		got[i] = append(got[i][:2], 1, 2, 3)
	}
	isRead(t, "what was read and changed", d, "g", 3, l, api.OK)
	_, got, _ = recs.Read(d, "g")
	_ = append(got[0], 77)
	if !slices.EqualFunc(got, l, slices.Equal[[]uint64]) {
		t.Error("Read: records share memory")
	}
}

// 6.5
func TestThereAndBack(t *testing.T) {
	d, _ := disk.Make(4000)
	for width := 1; width <= api.MaxWidth; width++ {
		for many := range 30 {
			l := some(width, many)
			next, e := recs.Write(d, "f", width, l)
			if e != api.OK {
				t.Fatalf("Write: error %d", e)
			}
			isHead(t, "what was written", next, "f", width, uint64(many), api.OK)
			isRead(t, "what was written", next, "f", width, l, api.OK)
			n, _ := recs.Need(width, uint64(many))
			if got, _ := disk.Sectors(next, "f"); got != n {
				t.Fatalf("%d sectors, where %d are needed", got, n)
			}
		}
		name := strconv.Itoa(width)
		d, _ = recs.Write(d, name, width, some(width, 500))
		d, _ = recs.WriteText(d, "t"+name, text(width*100))
	}
	for width := 1; width <= api.MaxWidth; width++ {
		name := strconv.Itoa(width)
		isRead(t, "one of many", d, name, width, some(width, 500), api.OK)
		isText(t, "one of many", d, "t"+name, text(width*100), api.OK)
	}
	many, _ := disk.Make(5121)
	l := some(1, api.MaxCount)
	many, e := recs.Write(many, "f", 1, l)
	if e != api.OK {
		t.Fatalf("Write of the most records: error %d", e)
	}
	isRead(t, "the most records", many, "f", 1, l, api.OK)
}

// kept tells, bit by bit, what is kept.
func kept(pattern, n int) []bool {
	keep := make([]bool, n)
	for i := range keep {
		keep[i] = pattern>>i&1 == 1
	}
	return keep
}

// 6.6: wherever the power goes, and whatever the crash keeps, there is the whole file, or no head.
func TestWholeOrNot(t *testing.T) {
	wholes, nones := 0, 0
	for _, c := range cases() {
		many := len(c.data) / api.SectorSize
		for fuse := range many + 1 {
			d, _ := c.write(changed(func(d *api.Disk) { d.Fuse = fuse }))
			for pattern := range 1 << (many + 1) {
				crashed, e := disk.Crash(d, kept(pattern, many+1)...)
				if e != api.OK {
					t.Fatalf("Crash: error %d", e)
				}
				if _, _, e = recs.Head(crashed, "f"); e == api.ErrForm {
					nones++
					continue
				}
				wholes++
				if x := crashed.Extents[1]; e != api.OK || x.Name != "f" || x.Data != c.data {
					t.Fatalf("behind a crash, with power for %d of %d: error %d, %q", fuse, many, e, x.Data)
				}
			}
		}
	}
	if wholes == 0 || nones == 0 {
		t.Fatalf("%d whole files, and %d without a head", wholes, nones)
	}
}

// P1, P3, P4: whatever is handed in, each call answers the same twice, and leaves no goroutine.
func TestWhatever(t *testing.T) {
	before := runtime.NumGoroutine()
	disks := []api.Disk{{}, {Size: -1}, busy(), changed(func(d *api.Disk) { d.Extents = nil }), changed(func(d *api.Disk) { d.Fuse, d.Down = 0, true })}
	r := rand.New(rand.NewPCG(6, 6))
	for range 200 {
		data := []byte(head(byte(r.IntN(11)), uint64(r.IntN(80))) + zeros(64*r.IntN(6)))
		for range r.IntN(3) {
			data[r.IntN(len(data))] = byte(r.IntN(256))
		}
		disks = append(disks, with(string(data)))
	}
	for _, d := range disks {
		for _, name := range []string{"", "f", "b", "g", longest + "n"} {
			w1, c1, e1 := recs.Head(d, name)
			isHead(t, "it again", d, name, w1, c1, e1)
			w2, l, e2 := recs.Read(d, name)
			isRead(t, "it again", d, name, w2, l, e2)
			s, e3 := recs.ReadText(d, name)
			isText(t, "it again", d, name, s, e3)
			if e1 != api.OK && (e2 != e1 || e3 != e1) || e2 == api.OK && e3 == api.OK {
				t.Fatalf("Head: error %d, Read: %d, ReadText: %d", e1, e2, e3)
			}
			for _, width := range []int{-1, 0, 1, 8, 9} {
				d1, e1 := recs.Write(d, name, width, [][]uint64{{1}})
				d2, e2 := recs.Write(d, name, width, [][]uint64{{1}})
				isDisk(t, "Write again", d2, e2, d1, e1)
			}
		}
	}
	if after := runtime.NumGoroutine(); after > before {
		t.Errorf("%d goroutines, where %d were", after, before)
	}
}
