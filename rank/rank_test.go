package rank_test

import (
	"math"
	"math/rand/v2"
	"runtime"
	"slices"
	"sort"
	"strconv"
	"strings"
	"testing"
	"unsafe"

	"wringer/api"
	"wringer/bwt"
	"wringer/disk"
	"wringer/order"
	"wringer/rank"
	"wringer/recs"
)

// rows are the places at which the ends of a text's rows begin, the ends held against each other one by one.
func rows(text string) []int {
	places := []int{}
	for place := range len(text) + 1 {
		places = append(places, place)
	}
	slices.SortFunc(places, func(a, b int) int { return strings.Compare(text[a:], text[b:]) })
	return places
}

// column is a text's last column, and the primary, by the words of chapter 12.
func column(text string) (string, uint64) {
	column, primary := []byte{}, 0
	for row, place := range rows(text) {
		if place == 0 {
			primary = row
			continue
		}
		column = append(column, text[place-1])
	}
	return string(column), uint64(primary)
}

// leads tells to which row each row of any column leads, by the words of chapter 17.
func leads(column string, primary uint64) []uint64 {
	l := make([]uint64, len(column)+1)
	l[primary] = primary
	for i, c := range []byte(column) {
		row, next := i, uint64(1)
		if uint64(i) >= primary {
			row++
		}
		for j, other := range []byte(column) {
			if other < c || other == c && j < i {
				next++
			}
		}
		l[row] = next
	}
	return l
}

// far tells of each place how many steps it is from the end, and whether each one leads there.
func far(leads []uint64, end uint64) ([]uint64, bool) {
	l := make([]uint64, len(leads))
	for place := range leads {
		for at := uint64(place); at != end; at = leads[at] {
			l[place]++
			if l[place] > uint64(len(leads)) {
				return nil, false
			}
		}
	}
	return l, true
}

// set are the file of a text's column, and that of to which row each of its rows leads: to the one whose end begins a place ahead.
func set(name, text string) []file {
	column, primary := column(text)
	rowOf, next := map[int]uint64{}, []uint64{}
	for row, place := range rows(text) {
		rowOf[place] = uint64(row)
	}
	for _, place := range rows(text) {
		if place == 0 {
			next = append(next, primary)
			continue
		}
		next = append(next, rowOf[place-1])
	}
	return []file{textFile(name, column), pairs("l."+name, next...)}
}

// withSets is a disk with the sets of texts.
func withSets(t *testing.T, room int, texts map[string]string) api.Disk {
	t.Helper()
	files := []file{}
	for name, text := range texts {
		files = append(files, set(name, text)...)
	}
	return with(t, room, files...)
}

// one is a disk with the set of one text, called a.
func one(t *testing.T, room int, text string) api.Disk {
	t.Helper()
	return withSets(t, room, map[string]string{"a": text})
}

// busyTexts are those whose sets are on a busy disk.
func busyTexts() map[string]string {
	return map[string]string{"a": "a banana, and one more banana", "b": strings.Repeat("b", 40), "n": "", "o": "o", "w": some(29, 3), "~": "tilde"}
}

// busy is a disk with the sets of some texts, of which that of w is wrong until what waits is done.
func busy(t *testing.T) api.Disk {
	t.Helper()
	d := withSets(t, 900, busyTexts())
	d, _ = disk.Write(d, "raw", 1, all("w"))
	for _, name := range []string{"w", "l.w"} {
		was, _ := disk.Read(d, name, 1)
		d, _ = disk.Write(d, name, 1, was)
		d = changed(d, func(d *api.Disk) {
			at := place(*d, name)
			d.Extents[at].Data = d.Extents[at].Data[:api.SectorSize] + all("\x00") + d.Extents[at].Data[2*api.SectorSize:]
		})
	}
	return d
}

// call is one of the package's.
type call func(d api.Disk, budget int, from string, number uint64, to string) (api.Disk, api.Cost, api.Errno)

// op is one of the package's calls, that are done of a text's set: of which file of it, what it should make of the text, and how many sectors it may need.
type op struct {
	what string
	do   call
	from func(name string) string
	want func(text string) file
	most func(many int) int
}

// told is how many sectors an operation may need, by the words of chapter 17.
func told(many int) int { return 320*sectors(many) + 400 }

// textOp is Text, leadsOp Leads, and farOp Far.
func textOp() op {
	return op{
		what: "Text",
		do:   rank.Text,
		from: func(name string) string { return name },
		want: func(text string) file { return textFile("to", text) },
		most: told,
	}
}
func leadsOp() op {
	return op{
		what: "Leads",
		do:   rank.Leads,
		from: func(name string) string { return name },
		want: func(text string) file {
			f := set("a", text)[1]
			f.name = "to"
			return f
		},
		most: func(many int) int { return pairSectors(many + 1) },
	}
}
func farOp() op {
	return op{
		what: "Far",
		do:   rank.Far,
		from: func(name string) string { return "l." + name },
		want: func(text string) file {
			l := []uint64{}
			for _, place := range rows(text) {
				l = append(l, uint64(place))
			}
			return pairs("to", l...)
		},
		most: told,
	}
}

// ops are all of them.
func ops() []op { return []op{textOp(), leadsOp(), farOp()} }

// ofText has an operation be done of a text's set.
func (o op) ofText(d api.Disk, budget int, to, name, text string) (api.Disk, api.Cost, api.Errno) {
	_, primary := column(text)
	return o.do(d, budget, o.from(name), primary, to)
}

// needed is how many sectors an operation needs of a text's set, called a, found by trying.
func needed(t *testing.T, o op, d api.Disk, budget int, text string) int {
	t.Helper()
	return sort.Search(o.most(len(text)), func(room int) bool {
		_, _, e := o.ofText(roomy(d, room), budget, "to", "a", text)
		if e != api.OK && e != api.ErrFull {
			t.Fatalf("%s: error %d", o.what, e)
		}
		return e == api.OK
	})
}

// isMade has an operation be done of a file, that makes one, and nothing else.
func isMade(t *testing.T, do call, what string, d api.Disk, budget int, from string, number uint64, made file) {
	t.Helper()
	want := put(synced(d), made)
	got, c, e := do(d, budget, from, number, made.name)
	if !alike(got, want) || e != api.OK {
		t.Fatalf("%s of %q and %d, under %d: error %d; %v\nas it should be:\n%v", what, from, number, budget, e, got, want)
	}
	least := uint64(len(body(made).Data) / api.SectorSize)
	if c.Frames < 1 || c.Frames > budget || c.Writes < least || c.Reads < 1 {
		t.Fatalf("%s of %q and %d: a cost of %+v, under %d, where %d sectors have come", what, from, number, c, budget, least)
	}
}

// isDone has an operation be done of a text's set, and nothing else.
func isDone(t *testing.T, o op, what string, d api.Disk, budget int, name, text string) {
	t.Helper()
	_, primary := column(text)
	isMade(t, o.do, o.what+", "+what, d, budget, o.from(name), primary, o.want(text))
}

// isRefused has an operation tell an error, and the disk as it was: zero, if that is not right.
func isRefused(t *testing.T, o op, what string, d api.Disk, budget int, to string, want api.Errno, from string, number uint64) {
	t.Helper()
	was := d
	if disk.Check(d) != api.OK {
		was = api.Disk{}
	}
	got, c, e := o.do(d, budget, from, number, to)
	if !alike(got, was) || c != (api.Cost{}) || e != want {
		t.Fatalf("%s of %q and %d to %q, %s: error %d, not %d; a cost of %+v; %v\nas it was:\n%v", o.what, from, number, to, what, e, want, c, got, was)
	}
}

func TestExample(t *testing.T) {
	d := with(t, 200, textFile("a", "annbaa"))
	d, _, e := rank.Text(d, api.MinBudget, "a", 4, "b")
	s, f := recs.ReadText(d, "b")
	if e != api.OK || f != api.OK || s != "banana" {
		t.Errorf("Text: error %d, and %d, %q", e, f, s)
	}
	// The rows' ends are those from 6, 5, 3, 1, 0, 4 and 2 on.
	d, _, e = rank.Leads(d, api.MinBudget, "a", 4, "l")
	width, l, f := recs.Read(d, "l")
	if want := pairs("l", 1, 5, 6, 4, 4, 2, 3); e != api.OK || f != api.OK || width != 2 || !slices.EqualFunc(l, want.records, slices.Equal) {
		t.Errorf("Leads: error %d, and %d, %v", e, f, l)
	}
	d, _, e = rank.Far(d, api.MinBudget, "l", 4, "f")
	width, l, f = recs.Read(d, "f")
	if want := pairs("f", 6, 5, 3, 1, 0, 4, 2); e != api.OK || f != api.OK || width != 2 || !slices.EqualFunc(l, want.records, slices.Equal) {
		t.Errorf("Far: error %d, and %d, %v", e, f, l)
	}
}

// 17.1, 17.2, 17.3, 17.5: texts of many sizes, with bytes of many kinds.
func TestSizes(t *testing.T) {
	for _, many := range []int{0, 1, 2, 3, 4, 5, 6, 7, 8, 9, 12, 13, 15, 16, 17, 31, 32, 33, 63, 64, 65, 127, 128, 129, 200} {
		for what, text := range shapes(many) {
			d := one(t, 3000, text)
			for _, o := range ops() {
				isDone(t, o, strconv.Itoa(many)+" bytes, "+what, d, api.MinBudget, "a", text)
				isDone(t, o, strconv.Itoa(many)+" bytes, "+what, d, 30, "a", text)
			}
		}
	}
}

// allShort are all short texts of few letters.
func allShort() []string {
	texts := []string{""}
	for i := 0; len(texts[i]) < 5; i++ {
		for _, c := range []string{"\x00", "a", "\xff"} {
			texts = append(texts, texts[i]+c)
		}
	}
	return texts
}

// key is a column and a primary.
type key struct {
	column  string
	primary uint64
}

// 17.1, 17.2, 17.3: all short columns of few letters, with all primaries: there is a text, or there is none; then there is no file.
func TestAllShort(t *testing.T) {
	textOf := map[key]string{}
	for _, text := range allShort() {
		column, primary := column(text)
		textOf[key{column, primary}] = text
	}
	for _, column := range allShort() {
		for primary := range uint64(len(column) + 3) {
			d := with(t, 60, textFile("a", column))
			text, is := textOf[key{column, primary}]
			if is {
				isMade(t, rank.Text, "Text", d, api.MinBudget, "a", primary, textFile("to", text))
			} else {
				isRefused(t, textOp(), "no text", d, api.MinBudget, "to", api.ErrCode, "a", primary)
			}
			if primary > uint64(len(column)) || primary == 0 && column != "" {
				isRefused(t, leadsOp(), "no primary", d, api.MinBudget, "to", api.ErrRange, "a", primary)
				continue
			}
			l := leads(column, primary)
			isMade(t, rank.Leads, "Leads", d, api.MinBudget, "a", primary, pairs("to", l...))
			steps, all := far(l, primary)
			if all != is {
				t.Fatalf("%q and %d: a text: %v; rows that lead to the primary: %v", column, primary, is, all)
			}
			d = with(t, 60, pairs("l", l...))
			if all {
				isMade(t, rank.Far, "Far", d, api.MinBudget, "l", primary, pairs("to", steps...))
			} else {
				isRefused(t, farOp(), "a ring", d, api.MinBudget, "to", api.ErrCode, "l", primary)
			}
		}
	}
}

// 17.1, P5: columns that are of no text, with any primary.
func TestLeads(t *testing.T) {
	text := make([]byte, 256)
	for i := range text {
		text[i] = byte(255 - i)
	}
	for _, column := range []string{string(text), strings.Repeat(string(text), 2), some(300, 2), some(300, 256), strings.Repeat("\xff", 90), strings.Repeat("\x00", 90)} {
		d := with(t, 200, textFile("a", column))
		for _, primary := range []uint64{1, 2, uint64(len(column)) / 2, uint64(len(column)) - 1, uint64(len(column))} {
			isMade(t, rank.Leads, "Leads", d, api.MinBudget, "a", primary, pairs("to", leads(column, primary)...))
		}
	}
}

// trees are leads of so many places of which each one leads to the last one, and how far they are.
func trees(many int) map[string][2][]uint64 {
	r := rand.New(rand.NewPCG(17, uint64(many)))
	last := uint64(many - 1)
	parts := map[string]func(place, more uint64) (uint64, uint64){
		"all to the end":     func(place, more uint64) (uint64, uint64) { return last, 1 },
		"each to the next":   func(place, more uint64) (uint64, uint64) { return place + 1, more },
		"each to any behind": func(place, more uint64) (uint64, uint64) { return place + 1 + r.Uint64N(more), 0 },
		"each to any near":   func(place, more uint64) (uint64, uint64) { return place + 1 + r.Uint64N(min(3, more)), 0 },
		"two to one":         func(place, more uint64) (uint64, uint64) { return last - (more-1)/2, 0 },
	}
	l := map[string][2][]uint64{}
	for what, part := range parts {
		next, steps := make([]uint64, many), make([]uint64, many)
		next[last] = last
		for place := int(last) - 1; place >= 0; place-- {
			next[place], steps[place] = part(uint64(place), last-uint64(place))
			steps[place] = steps[next[place]] + 1
		}
		l[what] = [2][]uint64{next, steps}
	}
	return l
}

// moved are leads, and how far they are, with the places called otherwise: the last one is one that is told.
func moved(l [2][]uint64, end uint64) [2][]uint64 {
	many := len(l[0])
	names := []uint64{}
	for _, name := range rand.New(rand.NewPCG(17, end)).Perm(many) {
		if uint64(name) != end {
			names = append(names, uint64(name))
		}
	}
	names = append(names, end)
	other := [2][]uint64{make([]uint64, many), make([]uint64, many)}
	for place, name := range names {
		other[0][name], other[1][name] = names[l[0][place]], l[1][place]
	}
	return other
}

// 17.2: places that any many others lead to, or none; the end is the first one, the last one or any other.
func TestFar(t *testing.T) {
	for _, many := range []int{1, 2, 3, 4, 5, 6, 7, 13, 31, 32, 33, 64, 100, 257} {
		for what, l := range trees(many) {
			for _, end := range []uint64{0, 1, uint64(many) / 2, uint64(many) - 2, uint64(many) - 1} {
				if end >= uint64(many) {
					continue
				}
				l := moved(l, end)
				if steps, all := far(l[0], end); !all || !slices.Equal(steps, l[1]) {
					t.Fatalf("%v: %v", l, steps)
				}
				d := with(t, 400, pairs("a", l[0]...))
				isMade(t, rank.Far, "Far, "+what, d, api.MinBudget, "a", end, pairs("to", l[1]...))
			}
		}
	}
}

// 17.2: places that lead to themselves, or in a ring, beside others that lead to the end, or that lead into the ring.
func TestRings(t *testing.T) {
	for _, many := range []int{2, 3, 4, 5, 8, 9, 17, 33, 64, 65, 130} {
		for what, l := range trees(many) {
			for _, ring := range []int{1, 2, 3, 4, 7, 8, 16, many - 1} {
				if ring >= many {
					continue
				}
				for _, from := range []int{0, many - 1 - ring, (many - 1 - ring) / 2} {
					next := slices.Clone(l[0])
					for i := range ring {
						next[from+i] = uint64(from + (i+1)%ring)
					}
					for _, end := range []uint64{uint64(many) - 1, 0, uint64(many) / 2} {
						l := moved([2][]uint64{next, l[1]}, end)
						d := with(t, 200, pairs("a", l[0]...))
						isRefused(t, farOp(), what+", and a ring", d, api.MinBudget, "to", api.ErrCode, "a", end)
					}
				}
			}
		}
	}
}

// 17.2: where there is a ring, and the power goes, the error is that of the power, or of the ring: then nothing was done.
func TestRingsPower(t *testing.T) {
	next := []uint64{1, 2, 3, 4, 5, 6, 7, 8, 8, 10, 11, 9}
	d := with(t, 60, pairs("a", next...), textFile("c", "aaaa"))
	d, _ = disk.Write(d, "raw", 1, all("w"))
	last := 0
	for fuse := 0; ; fuse++ {
		got, c, e := rank.Far(fused(d, fuse), api.MinBudget, "a", 8, "to")
		if e == api.ErrCode {
			isRefused(t, farOp(), "a ring", fused(d, fuse), api.MinBudget, "to", e, "a", 8)
			break
		}
		if e != api.ErrPower || !got.Down || c.Writes != uint64(fuse+1) || recsThere(got, "to") {
			t.Fatalf("Far with power for %d writes: error %d, a cost of %+v", fuse, e, c)
		}
		last = fuse
	}
	if last > 60 {
		t.Fatalf("a ring is found in %d writes", last)
	}
}

// recsThere tells whether there is a file of that name, behind a crash that keeps all.
func recsThere(d api.Disk, name string) bool {
	d, _ = disk.Crash(d, slices.Repeat([]bool{true}, len(d.Waits))...)
	_, _, e := recs.Head(d, name)
	return e == api.OK
}

// 17.2: records that are not each place, from 0 on, with one of these, or an end that leads elsewhere: this is told ahead of all that is done, however much power there is.
func TestPlacesWrong(t *testing.T) {
	for _, many := range []int{1, 2, 3, 6, 7, 40} {
		for place := range many {
			for _, l := range []struct {
				what string
				by   func(records [][]uint64)
			}{
				{"a place that is another one", func(l [][]uint64) { l[place][0] = (uint64(place) + 1) % uint64(many) }},
				{"a place that is none", func(l [][]uint64) { l[place][0] = uint64(many) }},
				{"places from 1 on", func(l [][]uint64) {
					for i := range l {
						l[i][0]++
					}
				}},
				{"two places in turn", func(l [][]uint64) { l[place], l[0] = l[0], l[place] }},
				{"a lead to no place", func(l [][]uint64) { l[place][1] = uint64(many) }},
				{"a lead to the most", func(l [][]uint64) { l[place][1] = api.MaxNum - 1 }},
				{"an end that leads elsewhere", func(l [][]uint64) { l[many-1][1] = uint64(place) }},
			} {
				f := pairs("a", trees(many)["each to the next"][0]...)
				was := pairs("a", trees(many)["each to the next"][0]...)
				if l.by(f.records); slices.EqualFunc(f.records, was.records, slices.Equal) {
					continue
				}
				d := with(t, 100, f)
				d, _ = disk.Write(d, "raw", 1, all("w"))
				for _, fuse := range []int{-1, 0, 1, 5, 100} {
					isRefused(t, farOp(), l.what, fused(d, fuse), api.MinBudget, "to", api.ErrCode, "a", uint64(many-1))
				}
				isRefused(t, farOp(), l.what, d, api.MaxFrames, "to", api.ErrCode, "a", uint64(many-1))
				isRefused(t, farOp(), l.what+", and no room", roomy(d, pairSectors(many)-1), api.MinBudget, "to", api.ErrFull, "a", uint64(many-1))
				isRefused(t, farOp(), l.what+", and no name", d, api.MinBudget, "", api.ErrRange, "a", uint64(many-1))
				_, _, e := rank.Far(roomy(d, pairSectors(many)), api.MinBudget, "a", uint64(many-1), "to")
				if e != api.ErrCode && e != api.ErrFull {
					t.Fatalf("Far, %s, with no room on the way: error %d", l.what, e)
				}
			}
		}
	}
}

// 17.1: a primary that is above as many bytes as there are, or 0 where there is one: this comes ahead of the new file's errors.
func TestPrimaryWrong(t *testing.T) {
	for _, many := range []int{0, 1, 2, 63, 64, 65, 300} {
		d := with(t, 900, textFile("a", some(many, 3)))
		for _, primary := range []uint64{0, uint64(many) + 1, uint64(many) + 2, math.MaxUint32 + 1, math.MaxUint64} {
			if many == 0 && primary == 0 {
				continue
			}
			for _, d := range []api.Disk{d, roomy(d, 0), fused(d, 0)} {
				for _, to := range []string{"to", "", longest + "n", "raw"} {
					isRefused(t, leadsOp(), "no primary", d, api.MinBudget, to, api.ErrRange, "a", primary)
				}
			}
			// Of a text it is told behind these, and behind room on the way.
			isRefused(t, textOp(), "no primary", d, api.MinBudget, "to", api.ErrCode, "a", primary)
			isRefused(t, textOp(), "no primary, and no power", fused(d, 0), api.MinBudget, "to", api.ErrCode, "a", primary)
			isRefused(t, textOp(), "no primary, and no name", d, api.MinBudget, "", api.ErrRange, "a", primary)
			isRefused(t, textOp(), "no primary, and a name that is there", d, api.MinBudget, "raw", api.ErrTwice, "a", primary)
			isRefused(t, textOp(), "no primary, and no room", roomy(d, sectors(many)-1), api.MinBudget, "to", api.ErrFull, "a", primary)
		}
	}
}

// 17.2: another width than 2, or an end that is not below as many as there are: this comes ahead of the new file's errors, and of what is wrong with the records.
func TestWidthAndEnd(t *testing.T) {
	refused := func(what string, f file, end uint64) {
		d := with(t, 200, f)
		for _, d := range []api.Disk{d, roomy(d, 0), fused(d, 0)} {
			for _, to := range []string{"to", "", longest + "n", "raw", "a"} {
				isRefused(t, farOp(), what, d, api.MinBudget, to, api.ErrRange, "a", end)
			}
		}
	}
	for width := 1; width <= api.MaxWidth; width++ {
		for _, many := range []int{0, 1, 2, 9} {
			f := file{name: "a", width: width, records: slices.Repeat([][]uint64{make([]uint64, width)}, many)}
			for _, end := range []uint64{0, uint64(many), uint64(many) + 1, math.MaxUint64} {
				if width != 2 || end >= uint64(many) {
					refused("width "+strconv.Itoa(width), f, end)
				}
			}
		}
	}
	for _, many := range []int{1, 2, 13} {
		for _, end := range []uint64{uint64(many), uint64(many) + 1, api.MaxNum, math.MaxUint64} {
			refused("an end that is none", pairs("a", trees(many)["all to the end"][0]...), end)
		}
	}
}

// 17.5: whatever the budgets are, the text of a text's last column is the text; what is known on the way is the same.
func TestBudgets(t *testing.T) {
	for _, text := range []string{some(430, 1), some(430, 3), some(430, 256), strings.Repeat("banana, ", 50)} {
		d := one(t, 4000, text)
		for _, o := range ops() {
			isDone(t, o, "under the least", d, api.MinBudget, "a", text)
			want, _, _ := o.ofText(d, api.MinBudget, "to", "a", text)
			for budget := api.MinBudget + 1; budget <= api.MaxFrames; budget += 1 + budget/4 {
				got, c, e := o.ofText(d, budget, "to", "a", text)
				if e != api.OK || !alike(got, want) || c.Frames < 1 || c.Frames > budget {
					t.Fatalf("%s under %d: error %d, a cost of %+v", o.what, budget, e, c)
				}
			}
			isDone(t, o, "under the most", d, api.MaxFrames, "a", text)
		}
	}
}

// P8: what is counted of each byte is in the memory of frames, that are of the budget.
func TestFrames(t *testing.T) {
	d := one(t, 100, "banana")
	if _, c, e := leadsOp().ofText(d, api.MinBudget, "to", "a", "banana"); e != api.OK || c.Frames <= 256*4/api.SectorSize || c.Frames > api.MinBudget {
		t.Fatalf("Leads: error %d, a cost of %+v", e, c)
	}
}

// 17.5, P6: there and back, through files.
func TestThereAndBack(t *testing.T) {
	for i, text := range []string{"", "a", "aa", "ab", "ba", "banana", some(500, 2), some(1001, 1), strings.Repeat("abracadabra ", 80), some(3000, 200)} {
		d := with(t, 9000, textFile("a", text))
		budgets := []int{api.MinBudget, api.MinBudget + 9*i, api.MaxFrames}
		d, primary, _, e := bwt.Column(d, budgets[i%3], "a", "c")
		if e != api.OK {
			t.Fatalf("Column of %d bytes: error %d", len(text), e)
		}
		for _, budget := range budgets {
			isMade(t, rank.Text, "Text", d, budget, "c", primary, textFile("to", text))
		}
	}
}

// 17.3: there is a text where one is told in memory, and that one.
func TestAsInMemory(t *testing.T) {
	r := rand.New(rand.NewPCG(17, 3))
	for range 300 {
		many := r.IntN(40)
		text := some(many, 1+r.IntN(4))
		column, p, _ := order.Column(text)
		primary := uint64(p)
		if c := []byte(column); many > 1 && r.IntN(2) == 0 {
			i, j := r.IntN(many), r.IntN(many)
			c[i], c[j] = c[j], c[i]
			column = string(c)
		} else if r.IntN(3) == 0 {
			primary = r.Uint64N(uint64(many) + 2)
		}
		d := with(t, 200, textFile("a", column))
		want, e := order.Text(column, int(primary))
		if e != api.OK {
			isRefused(t, textOp(), "no text", d, api.MinBudget, "to", e, "a", primary)
			continue
		}
		isMade(t, rank.Text, "Text", d, api.MinBudget, "a", primary, textFile("to", want))
	}
	for _, text := range []string{some(api.MaxPlain-1, 20), some(api.MaxPlain, 2), some(api.MaxPlain, 256), some(api.MaxPlain, 1)} {
		column, primary, _ := order.Column(text)
		d := with(t, 6000, textFile("a", column))
		isMade(t, rank.Text, "Text", d, api.MinBudget+len(text)%99, "a", uint64(primary), textFile("to", text))
		isRefused(t, textOp(), "no text", d, api.MinBudget, "to", api.ErrCode, "a", uint64(primary)%api.MaxPlain+1)
	}
}

// 17.1, 17.2, 17.3: as many bytes as a file may have, and one less: of the leads of one less there is just room enough; of the others there is none on any disk.
func TestMost(t *testing.T) {
	most := func(d api.Disk) api.Disk {
		return changed(d, func(d *api.Disk) { d.Size = api.MaxSectors })
	}
	column := strings.Repeat("b", api.MaxCount-2) + "a"
	d := with(t, pairSectors(api.MaxCount), textFile("a", column))
	next := []uint64{}
	for row := range uint64(api.MaxCount) {
		next = append(next, min(row+2, api.MaxCount-1))
	}
	next[5], next[api.MaxCount-1] = 5, 1
	for row := uint64(6); row < api.MaxCount-1; row++ {
		next[row] = row + 1
	}
	for _, budget := range []int{api.MinBudget, api.MaxFrames} {
		isMade(t, rank.Leads, "Leads of MaxCount - 1 bytes", d, budget, "a", 5, pairs("to", next...))
	}
	isRefused(t, leadsOp(), "a sector less", roomy(d, pairSectors(api.MaxCount)-1), api.MinBudget, "to", api.ErrFull, "a", 5)
	isRefused(t, textOp(), "MaxCount - 1 bytes", most(d), api.MinBudget, "to", api.ErrFull, "a", 5)
	isRefused(t, farOp(), "MaxCount records", most(with(t, 0, pairs("l", next...))), api.MinBudget, "to", api.ErrFull, "l", 5)

	d = most(with(t, 0, textFile("a", column+"c")))
	for _, d := range []api.Disk{d, roomy(d, 0), fused(d, 0)} {
		for _, to := range []string{"to", "", longest + "n", "raw"} {
			for _, primary := range []uint64{0, 1, api.MaxCount, api.MaxCount + 1} {
				isRefused(t, leadsOp(), "MaxCount bytes", d, api.MinBudget, to, api.ErrRange, "a", primary)
				isRefused(t, textOp(), "MaxCount bytes", d, api.MinBudget, to, api.ErrRange, "a", primary)
			}
		}
	}
}

// 17.2, 17.3: texts, and ways to the end, that are far longer than what is looked at in memory.
func TestLong(t *testing.T) {
	many := 30000
	d := changed(with(t, 0, textFile("a", strings.Repeat("a", many))), func(d *api.Disk) { d.Size = api.MaxSectors })
	isMade(t, rank.Text, "Text", d, api.MinBudget, "a", uint64(many), textFile("to", strings.Repeat("a", many)))
	text := some(6000, 256)
	d = changed(with(t, 0, textFile("a", text)), func(d *api.Disk) { d.Size = api.MaxSectors })
	d, primary, _, e := bwt.Column(d, api.MaxFrames, "a", "c")
	if e != api.OK {
		t.Fatalf("Column: error %d", e)
	}
	isMade(t, rank.Text, "Text", d, api.MaxFrames, "c", primary, textFile("to", text))
}

// Chapter 17, words: there is never more room needed than is told; on a disk of 900 sectors, of which files take at most 20, there is room for at most eight bytes.
func TestRoomTold(t *testing.T) {
	for _, budget := range []int{api.MinBudget, api.MinBudget + 1, 60, api.MaxFrames} {
		for _, many := range []int{0, 1, 2, 3, 6, 7, 60, 64, 65, 400, 1300} {
			text := some(many, 1+many%3)
			for _, o := range ops() {
				isDone(t, o, "with as much room as may be needed", one(t, o.most(many), text), budget, "a", text)
			}
		}
		for many := range 9 {
			text := some(many, 2)
			d := changed(one(t, 0, text), func(d *api.Disk) { d.Size = 900 })
			d = put(d, textFile("x", some(api.SectorSize*(20-used(d)-1), 9)))
			if used(d) != 20 {
				t.Fatalf("files take %d sectors", used(d))
			}
			for _, o := range ops() {
				isDone(t, o, "on a disk of 900 sectors", d, budget, "a", text)
			}
		}
	}
}

// 17.1, 17.2, 17.3, P9: just as much room as is needed, and any less: there is no file then, however much power there is.
func TestRoom(t *testing.T) {
	for _, budget := range []int{api.MinBudget, 31, api.MaxFrames} {
		for _, many := range []int{0, 1, 2, 5, 6, 7, 64, 65, 100, 101, 240, 700} {
			text := some(many, 1+many%3)
			d := one(t, 0, text)
			_, primary := column(text)
			for _, o := range ops() {
				need, least := needed(t, o, d, budget, text), len(body(o.want(text)).Data)/api.SectorSize
				isDone(t, o, "with just as much room", roomy(d, need), budget, "a", text)
				for _, less := range []int{1, 2, 3, need - least, need - least + 1, need} {
					for _, fuse := range []int{-1, 0, 7} {
						if less > 0 && less <= need {
							isRefused(t, o, "with less room", fused(roomy(d, need-less), fuse), budget, "to", api.ErrFull, o.from("a"), primary)
						}
					}
				}
				if need < least || o.what == "Leads" && need != least {
					t.Fatalf("%s of %d bytes needs %d sectors", o.what, many, need)
				}
			}
		}
	}
}

// onTheWay are the names that have come, beside the new file's, when there is power for so many writes, of how many sectors all are that have come, and whether all is done.
func onTheWay(t *testing.T, o op, d api.Disk, fuse int, to, text string) ([]string, int, bool) {
	t.Helper()
	got, _, e := o.ofText(fused(d, fuse), api.MinBudget, to, "a", text)
	if e != api.OK && e != api.ErrPower {
		t.Fatalf("%s, with power for %d writes: error %d", o.what, fuse, e)
	}
	come := []string{}
	for _, x := range got.Extents {
		if place(d, x.Name) < 0 && x.Name != to {
			come = append(come, x.Name)
		}
	}
	return come, used(got) - used(d), e == api.OK
}

// Chapter 17, words: as long as it is at work, other files have names that begin with a tilde, none of them the new one's, be that a name that they would have else; in the end they are no more. They have just as many sectors as are asked for ahead.
func TestOnTheWay(t *testing.T) {
	for _, o := range ops() {
		for _, text := range []string{"", "anana", "banana", strings.Repeat("x", 70), some(130, 2)} {
			d, seen, sectors := one(t, 2000, text), []string{}, 0
			done := false
			for fuse := 0; !done; fuse++ {
				var come []string
				var many int
				come, many, done = onTheWay(t, o, d, fuse, "to", text)
				if done && len(come) > 0 {
					t.Fatalf("%s: in the end there are %q", o.what, come)
				}
				seen, sectors = append(seen, come...), max(sectors, many)
			}
			if need := needed(t, o, d, api.MinBudget, text); sectors != need {
				t.Fatalf("%s of %q: there are %d sectors on the way, where %d are asked for", o.what, text, sectors, need)
			}
			slices.Sort(seen)
			seen = slices.Compact(seen)
			if (len(seen) == 0) != (o.what == "Leads") || slices.ContainsFunc(seen, func(name string) bool { return name[0] != '~' }) {
				t.Fatalf("%s: on the way there are %q", o.what, seen)
			}
			for _, to := range seen {
				if come, _, done := onTheWay(t, o, d, -1, to, text); !done || len(come) > 0 {
					t.Fatalf("%s to %q: in the end there are %q", o.what, to, come)
				}
			}
		}
	}
}

// Chapter 17, words: names that others have, whatever they are, are not those of files on the way.
func TestTilde(t *testing.T) {
	text := some(60, 2)
	d := one(t, 0, text)
	for _, name := range []string{"~", "~~", "~0", "~1", "~10000", "~100000", "~100001", "~10001", "~10002x", "~10003\x00", "~99999", "~rank"} {
		d = put(d, pairs(name, 0, 0, 0))
	}
	tilde := "~10004" + longest[8:]
	for _, f := range set("x", text) {
		f.name = strings.ReplaceAll(f.name, "x", tilde)
		d = put(d, f)
	}
	for i := range 60 {
		d = put(d, pairs("~"+strconv.Itoa(10010+i)))
	}
	d = roomy(d, 2000)
	for _, o := range ops() {
		isDone(t, o, "where there are names with a tilde", d, api.MinBudget, "a", text)
		isDone(t, o, "of a name with a tilde", d, api.MinBudget, tilde, text)
		for _, to := range []string{"~10005", "~100050", "~100060", "~100070000", "~2", "~1000x", longest} {
			got, c, e := o.ofText(d, api.MinBudget, to, "a", text)
			made := o.want(text)
			made.name = to
			if e != api.OK || !alike(got, put(d, made)) || c.Writes == 0 {
				t.Fatalf("%s to %q: error %d, a cost of %+v", o.what, to, e, c)
			}
		}
	}
}

// 17.1, 17.2, 17.3, chapter 7, words: where writes wait, what is seen is read, and all that waits is synced.
func TestWaits(t *testing.T) {
	for _, many := range []int{0, api.MaxWaits - 1, api.MaxWaits} {
		d := changed(busy(t), func(d *api.Disk) {
			more := slices.Repeat([]api.Write{{Name: "raw", Data: all("?")}}, max(0, many-len(d.Waits)))
			d.Waits = append(more, d.Waits...)
		})
		for name, text := range busyTexts() {
			for _, o := range ops() {
				isDone(t, o, "where writes wait", d, api.MinBudget, name, text)
				isDone(t, o, "where writes wait", d, 77, name, text)
			}
		}
	}
}

// 17.1, 17.2, 17.3, chapter 7, words: what is behind a body is not asked.
func TestBehind(t *testing.T) {
	text := some(30, 2)
	d := one(t, 600, text)
	for name, size := range map[string]int{"a": 30, "l.a": 310} {
		i := place(d, name)
		for at := api.SectorSize + size; at < len(d.Extents[i].Data); at += 7 {
			d = turned(d, name, at)
		}
	}
	if _, e := recs.ReadText(d, "a"); e != api.ErrCode {
		t.Fatalf("what is behind a body is not 0: error %d", e)
	}
	for _, o := range ops() {
		isDone(t, o, "where there is something behind the bodies", d, api.MinBudget, "a", text)
	}
}

// wrongBudgets are budgets that are wrong, and what is told of them.
var wrongBudgets = []struct {
	budget int
	want   api.Errno
}{
	{api.MinBudget - 1, api.ErrBudget}, {8, api.ErrBudget}, {1, api.ErrBudget}, {0, api.ErrBudget}, {-1, api.ErrBudget}, {math.MinInt, api.ErrBudget},
	{api.MaxFrames + 1, api.ErrRange}, {1 << 20, api.ErrRange}, {math.MaxInt, api.ErrRange},
}

// 17.1, 17.2, 17.3, P8: a disk that is not right comes ahead of one without power, that of a budget, and that of all others.
func TestBudget(t *testing.T) {
	d := busy(t)
	bad := changed(d, func(d *api.Disk) { d.Size, d.Down = 1, true })
	down := changed(d, func(d *api.Disk) { d.Down, d.Fuse = true, 0 })
	for _, o := range ops() {
		for _, name := range []string{"a", "n", "w", "l.a", "none", "raw", ""} {
			for _, number := range []uint64{0, 1, 999} {
				for _, to := range []string{"to", "", "a"} {
					for _, budget := range []int{api.MinBudget, api.MaxFrames, api.MinBudget - 1, api.MaxFrames + 1, 0} {
						isRefused(t, o, "a disk that is not right", bad, budget, to, api.ErrForm, o.from(name), number)
						isRefused(t, o, "a disk without power", down, budget, to, api.ErrPower, o.from(name), number)
					}
					for _, l := range wrongBudgets {
						isRefused(t, o, "a budget of "+strconv.Itoa(l.budget), d, l.budget, to, l.want, o.from(name), number)
					}
				}
			}
		}
	}
}

// wrong is a disk of which a file is none, and what is told of that.
type wrong struct {
	what string
	d    api.Disk
	want api.Errno
}

// wrongs are disks on which a file of some bytes, or records, is none.
func wrongs(d api.Disk, name string) []wrong {
	without := gone(d, name)
	raw, _ := disk.New(without, name, 2)
	waits, _ := disk.Write(d, name, 0, all("\x00"))
	resized := func(by func(data string) string) api.Disk {
		return changed(d, func(d *api.Disk) {
			at := place(*d, name)
			d.Extents[at].Data = by(d.Extents[at].Data)
		})
	}
	l := []wrong{
		{"no such file", without, api.ErrNone},
		{"no head", raw, api.ErrForm},
		{"no head, once what waits is done", waits, api.ErrForm},
		{"no mark", turned(d, name, 0), api.ErrForm},
		{"another width", turned(d, name, 2), api.ErrSum},
		{"another count", turned(d, name, 7), api.ErrSum},
		{"another sum", turned(d, name, 9), api.ErrSum},
		{"another end of the head", turned(d, name, 63), api.ErrForm},
		{"a sector too many", resized(func(data string) string { return data + all("\x00") }), api.ErrForm},
		{"a sector too few", resized(func(data string) string { return data[api.SectorSize:] }), api.ErrForm},
	}
	if name != "a" {
		return append(l, wrong{"a file of bytes", put(without, textFile(name, "xyz")), api.ErrCode}, wrong{"a file of no bytes", put(without, textFile(name, "")), api.ErrCode})
	}
	for width := 1; width <= api.MaxWidth; width++ {
		some := file{name: name, width: width, records: [][]uint64{make([]uint64, width)}}
		l = append(l, wrong{"a file of records", put(without, some), api.ErrCode}, wrong{"a file of no records", put(without, file{name: name, width: width}), api.ErrCode})
	}
	return l
}

// 17.1, 17.2, 17.3: the error of the file comes ahead of that of a primary, or an end, and of the new file's errors.
func TestFilesWrong(t *testing.T) {
	d := one(t, 400, some(40, 3))
	for _, o := range ops() {
		for _, number := range []uint64{0, 1, 40, 41, 42, math.MaxUint64} {
			for _, l := range wrongs(d, o.from("a")) {
				for _, to := range []string{"to", "", longest + "n", "raw"} {
					isRefused(t, o, l.what, l.d, api.MinBudget, to, l.want, o.from("a"), number)
					isRefused(t, o, l.what+", and no room", roomy(l.d, 0), api.MaxFrames, to, l.want, o.from("a"), number)
				}
			}
			for _, name := range []string{"", longest, longest + "n"} {
				isRefused(t, o, "no such file", d, api.MinBudget, "to", api.ErrNone, name, number)
			}
		}
	}
}

// 17.1, 17.2, 17.3: the new file's errors, in their order.
func TestNewWrong(t *testing.T) {
	texts := map[string]string{"a": some(100, 3), "n": "", "o": "o"}
	d := withSets(t, 400, texts)
	for _, o := range ops() {
		for name, text := range texts {
			_, primary := column(text)
			for _, d := range []api.Disk{d, roomy(d, 0)} {
				isRefused(t, o, "no name", d, api.MinBudget, "", api.ErrRange, o.from(name), primary)
				isRefused(t, o, "a name that is too long", d, api.MinBudget, longest+"n", api.ErrRange, o.from(name), primary)
				for _, to := range []string{"a", "n", "l.o", "raw", o.from(name)} {
					isRefused(t, o, "a name that is there", d, api.MinBudget, to, api.ErrTwice, o.from(name), primary)
				}
			}
			few := len(body(o.want(text)).Data)/api.SectorSize - 1
			isRefused(t, o, "a sector less than the new file has", roomy(d, few), api.MinBudget, "to", api.ErrFull, o.from(name), primary)
			isRefused(t, o, "no room", roomy(d, 0), api.MinBudget, "to", api.ErrFull, o.from(name), primary)
		}
	}
}

// 17.1, 17.2, 17.3, chapter 7, words: these errors are told ahead of all that is done: however much power there is, the disk is as it was.
func TestRefusedPower(t *testing.T) {
	text := some(90, 5)
	d := one(t, 0, text)
	_, primary := column(text)
	for _, o := range ops() {
		need := needed(t, o, d, api.MinBudget, text)
		for fuse := range 60 {
			d := fused(roomy(d, need), fuse)
			isRefused(t, o, "a name that is there", d, api.MinBudget, "raw", api.ErrTwice, o.from("a"), primary)
			isRefused(t, o, "no name", d, api.MinBudget, "", api.ErrRange, o.from("a"), primary)
			isRefused(t, o, "no such file", d, api.MinBudget, "to", api.ErrNone, "none", primary)
			isRefused(t, o, "no room", roomy(d, 1), api.MinBudget, "to", api.ErrFull, o.from("a"), primary)
			isRefused(t, o, "a sector less than is needed", roomy(d, need-1), api.MinBudget, "to", api.ErrFull, o.from("a"), primary)
		}
	}
}

// isCrashed holds what is behind a crash against what may be: the new file is whole, or has no head, or is not there; the others are as they were, but for those whose names begin with a tilde. It tells the disk without the new file, and whether that is whole.
func isCrashed(t *testing.T, what string, d api.Disk, keep []bool, whole, without api.Disk) (api.Disk, bool) {
	t.Helper()
	crashed, e := disk.Crash(d, keep...)
	if e != api.OK {
		t.Fatalf("%s: Crash: error %d", what, e)
	}
	_, _, e = recs.Head(crashed, "to")
	left := changed(crashed, func(d *api.Disk) {
		d.Extents = slices.DeleteFunc(d.Extents, func(x api.Extent) bool { return x.Name[0] == '~' && x.Name != "~" })
	})
	if e == api.OK && alike(left, whole) {
		return crashed, true
	}
	if e == api.ErrForm {
		crashed, left = gone(crashed, "to"), gone(left, "to")
	} else if e != api.ErrNone {
		t.Fatalf("%s: behind the crash: error %d", what, e)
	}
	if !alike(left, without) {
		t.Fatalf("%s: behind the crash: %v\nas it should be:\n%v", what, left, without)
	}
	return crashed, false
}

// isPowerless has an operation be done with power for so many writes; with an error the disk is as it is then. It tells whether all was done.
func isPowerless(t *testing.T, o op, d api.Disk, fuse int, name, text string, whole api.Disk) (api.Disk, api.Cost, bool) {
	t.Helper()
	got, c, e := o.ofText(fused(d, fuse), api.MinBudget, "to", name, text)
	if c.Frames < 1 || c.Frames > api.MinBudget {
		t.Fatalf("%s of %s, with power for %d writes: a cost of %+v", o.what, name, fuse, c)
	}
	if e == api.OK {
		if want := fused(whole, got.Fuse); !alike(got, want) || got.Fuse < 0 || c.Writes != uint64(fuse-got.Fuse) {
			t.Fatalf("%s of %s, with power for %d writes: a cost of %+v, %v\nas it should be:\n%v", o.what, name, fuse, c, got, want)
		}
		return got, c, true
	}
	if e != api.ErrPower || !got.Down || disk.Check(got) != api.OK || c.Writes != uint64(fuse+1) {
		t.Fatalf("%s of %s, with power for %d writes: error %d, a cost of %+v, %v", o.what, name, fuse, e, c, got)
	}
	return got, c, false
}

// 17.1, 17.2, 17.3, chapter 7, words: wherever the power goes, the error is told beside the disk as it is then, and what it cost so far; behind the crash the new file is whole, or has no head, or is not there. Done again, it comes to what it would have been.
func TestPower(t *testing.T) {
	for _, name := range []string{"a", "b", "n", "o", "w"} {
		text := busyTexts()[name]
		for _, o := range ops() {
			without := synced(busy(t))
			whole, wholes, done, last := put(without, o.want(text)), 0, false, api.Cost{}
			for fuse := 0; !done; fuse++ {
				var got api.Disk
				var c api.Cost
				got, c, done = isPowerless(t, o, busy(t), fuse, name, text, whole)
				if c.Reads < last.Reads || c.Writes < last.Writes {
					t.Fatalf("%s of %s, with power for %d writes: a cost of %+v, for one less of %+v", o.what, name, fuse, c, last)
				}
				last = c
				for i, keep := range keeps(len(got.Waits)) {
					crashed, is := isCrashed(t, o.what, fused(got, -1), keep, whole, without)
					if is {
						wholes++
					} else if i < 2 || i%5 == fuse%5 {
						isDone(t, o, "behind a crash", roomy(crashed, 900), api.MinBudget, name, text)
					}
				}
			}
			if wholes == 0 {
				t.Fatalf("%s of %s: the file is never whole behind a crash", o.what, name)
			}
		}
	}
}

// 17.3: where steps are doubled often, and runs are merged, the power may go at any write.
func TestPowerLong(t *testing.T) {
	text := strings.Repeat("banana, ", 40)
	d := one(t, 1500, text)
	whole, done := put(d, textFile("to", text)), false
	for fuse := 0; !done; fuse += 3 + fuse%31 {
		var got api.Disk
		got, _, done = isPowerless(t, textOp(), d, fuse, "a", text, whole)
		if !done {
			isCrashed(t, "Text", got, slices.Repeat([]bool{fuse%2 == 0}, len(got.Waits)), whole, d)
		}
	}
}

// 17.4: what each call, refused or not, answers is its own, and what was handed in is as it was.
func TestNewMemory(t *testing.T) {
	for _, fuse := range []int{-1, 0, 20, 45} {
		for _, name := range []string{"a", "b", "n", "w", "none"} {
			for _, budget := range []int{api.MinBudget, api.MaxFrames, 1} {
				for _, o := range ops() {
					d, to, text := fused(busy(t), fuse), strings.Repeat("t", 2), busyTexts()[name]
					d.Down = fuse == 45 && name == "b"
					got, _, _ := o.ofText(d, budget, to, name, text)
					again, _, _ := o.ofText(d, budget, to, name, text)
					if shares(got, d) || shares(got, again) || texts(got)[unsafe.StringData(to)] > 0 {
						t.Fatalf("%s of %s: what is answered is no new memory", o.what, name)
					}
					clear(got.Extents)
					clear(got.Waits)
					was := fused(busy(t), fuse)
					was.Down = d.Down
					if next, _, _ := o.ofText(d, budget, to, name, text); !alike(next, again) || !alike(d, was) {
						t.Fatalf("%s of %s: what was answered, or handed in, is kept", o.what, name)
					}
				}
			}
		}
	}
}

// P1, P2, P3, P4: whatever is handed in, each call answers the same twice, and leaves no goroutine.
func TestWhatever(t *testing.T) {
	before := runtime.NumGoroutine()
	d := busy(t)
	wild := api.Disk{Extents: []api.Extent{{Name: "~2"}, {Name: "~10000"}, {}, {Name: "~1"}}, Waits: []api.Write{{Name: "~1", Sector: -1}}}
	disks := []api.Disk{{}, {Size: -1}, {Size: 3, Fuse: -1}, wild, d, changed(d, func(d *api.Disk) { d.Waits = nil }), fused(d, 2), changed(d, func(d *api.Disk) { d.Down = true })}
	r := rand.New(rand.NewPCG(17, 17))
	for range 60 {
		one := turned(d, []string{"b", "l.b"}[r.IntN(2)], r.IntN(api.SectorSize+20))
		disks = append(disks, changed(one, func(d *api.Disk) { d.Fuse, d.Size = r.IntN(99)-2, d.Size-r.IntN(900) }))
	}
	names := []string{"", "a", "b", "n", "o", "raw", "none", "w", "~", "~10000", longest + "n", "l.a", "l.b", "l.n", "l.o", "l.w"}
	for _, d := range disks {
		for range 30 {
			from, to := names[r.IntN(len(names))], names[r.IntN(len(names))]
			number := []uint64{0, 1, r.Uint64N(41), 40, math.MaxUint64 >> r.IntN(64)}[r.IntN(5)]
			budget := []int{-1, 0, api.MinBudget - 1, api.MinBudget, api.MinBudget, 99, api.MaxFrames, api.MaxFrames + 1}[r.IntN(8)]
			for _, o := range ops() {
				one, c, e := o.do(d, budget, from, number, to)
				other, g, f := o.do(d, budget, from, number, to)
				if !alike(one, other) || c != g || e != f {
					t.Fatalf("%s: error %d, and then %d", o.what, e, f)
				}
				if e != api.OK && e != api.ErrPower && c != (api.Cost{}) {
					t.Fatalf("%s: error %d beside a cost of %+v", o.what, e, c)
				}
			}
		}
	}
	if after := runtime.NumGoroutine(); after > before {
		t.Errorf("%d goroutines, where %d were", after, before)
	}
}
