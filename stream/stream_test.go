package stream_test

import (
	"errors"
	"math"
	"slices"
	"testing"

	"wringer/api"
	"wringer/disk"
	"wringer/num"
	"wringer/pool"
	"wringer/recs"
	"wringer/stream"
)

// records are as many as one is told, of width 2.
func records(many int) [][]uint64 {
	l := [][]uint64{}
	for i := range uint64(many) {
		l = append(l, []uint64{i, 1000 - i})
	}
	return l
}

// with is a disk with a file a of so many records, and room.
func with(t *testing.T, many int) api.Disk {
	t.Helper()
	d, _ := disk.Make(200)
	d, e := recs.Write(d, "a", 2, records(many))
	if e != api.OK {
		t.Fatalf("a disk with a file: error %d", e)
	}
	return d
}

// alike holds two disks against each other; nil and empty lists are alike.
func alike(a, b api.Disk) bool {
	return a.Size == b.Size && a.Fuse == b.Fuse && a.Down == b.Down && slices.Equal(a.Extents, b.Extents) && slices.Equal(a.Waits, b.Waits)
}

// isFault holds an error against the place and the number that it should tell.
func isFault(t *testing.T, err error, name string, sector int, want api.Errno) {
	t.Helper()
	var f *stream.Fault
	if !errors.As(err, &f) || f.Name != name || f.Sector != sector || !errors.Is(err, want) {
		t.Fatalf("%v, where it should be error %d of %s, sector %d", err, want, name, sector)
	}
}

func TestFault(t *testing.T) {
	if err := stream.At("a", api.OK); err != nil {
		t.Errorf("no error: %v", err)
	}
	err := stream.At("a", api.ErrFull)
	isFault(t, err, "a", 0, api.ErrFull)
	if err.Error() != "a, sector 0: full" {
		t.Errorf("an error with its place: %v", err)
	}
}

// Records are read one by one; behind the last one there is none, and each sector is read once.
func TestReader(t *testing.T) {
	d := with(t, 40)
	_, c, e := stream.Do(d, api.MinBudget, func(w *stream.Work) error {
		r, err := w.Open("a")
		if err != nil || r.Width != 2 || r.Count != 40 {
			t.Fatalf("Open: %v, %+v", err, r)
		}
		got := [][]uint64{}
		for range 5 {
			record, err := r.Next()
			if err != nil {
				t.Fatal(err)
			}
			got = append(got, record)
		}
		err = r.Each(func(record []uint64) error {
			got = append(got, record)
			return nil
		})
		if err != nil || !slices.EqualFunc(got, records(40), slices.Equal[[]uint64]) {
			t.Fatalf("Each: %v, %v", err, got)
		}
		_, err = r.Next()
		isFault(t, err, "a", 7, api.ErrShort)
		return r.Each(func([]uint64) error { return stream.At("a", api.ErrState) })
	})
	if e != api.OK || c.Reads != 8 || c.Writes != 0 {
		t.Fatalf("error %d, a cost of %+v", e, c)
	}
}

// The first error that is told ends it all: the disk is as it was, whatever was done.
func TestEnds(t *testing.T) {
	d := with(t, 40)
	told := 0
	got, c, e := stream.Do(d, api.MinBudget, func(w *stream.Work) error {
		r, err := w.Open("a")
		if err != nil {
			return err
		}
		return w.Make("b", 2, r.Count, func(put func(record []uint64) error) error {
			return r.Each(func(record []uint64) error {
				if told++; told > 30 {
					return stream.At("a", api.ErrOrder)
				}
				return put(record)
			})
		})
	})
	if e != api.ErrOrder || (c != api.Cost{}) || !alike(got, d) || told != 31 {
		t.Fatalf("error %d, a cost of %+v, %d records", e, c, told)
	}
}

// What is no record, or more than there is room for, is refused.
func TestPutWrong(t *testing.T) {
	for _, l := range []struct {
		record []uint64
		many   int
		sector int
		want   api.Errno
	}{
		{nil, 1, 0, api.ErrRange},
		{make([]uint64, api.MaxWidth+1), 1, 0, api.ErrRange},
		{[]uint64{0, api.MaxNum}, 1, 0, api.ErrRange},
		{[]uint64{1, 2}, 13, 2, api.ErrRange},
	} {
		d := with(t, 1)
		got, _, e := stream.Do(d, api.MinBudget, func(w *stream.Work) error {
			return w.Make("b", 2, 1, func(put func(record []uint64) error) error {
				for range l.many - 1 {
					if err := put(l.record); err != nil {
						return err
					}
				}
				err := put(l.record)
				isFault(t, err, "b", l.sector, l.want)
				return err
			})
		})
		if e != l.want || !alike(got, d) {
			t.Fatalf("%v, %d times: error %d", l.record, l.many, e)
		}
	}
}

// A reader may begin again, wherever it stands.
func TestRewind(t *testing.T) {
	_, c, e := stream.Do(with(t, 40), api.MinBudget, func(w *stream.Work) error {
		r, err := w.Open("a")
		if err != nil {
			return err
		}
		for _, ahead := range []int{0, 1, 7, 39, 40} {
			for range ahead {
				if _, err := r.Next(); err != nil {
					return err
				}
			}
			r.Rewind()
			got := [][]uint64{}
			err := r.Each(func(record []uint64) error {
				got = append(got, record)
				return nil
			})
			if err != nil || !slices.EqualFunc(got, records(40), slices.Equal[[]uint64]) {
				t.Fatalf("behind %d: %v, %v", ahead, err, got)
			}
			r.Rewind()
		}
		return nil
	})
	if e != api.OK || c.Reads < 36 || c.Writes != 0 {
		t.Fatalf("error %d, a cost of %+v", e, c)
	}
}

// From each place on records are read as they stand there, of all widths, whatever was read ahead; behind the last one there is none.
func TestSeek(t *testing.T) {
	for width := range api.MaxWidth + 1 {
		l, text := [][]uint64{}, ""
		for i := range uint64(60) {
			l, text = append(l, slices.Repeat([]uint64{i}, width)), text+string([]byte{byte(i), byte(i)})
		}
		d, _ := disk.Make(200)
		d, e := recs.Write(d, "a", max(1, width), l)
		open := (*stream.Work).Open
		if width == 0 {
			d, _ = disk.Make(200)
			d, e = recs.WriteText(d, "a", text)
			open = (*stream.Work).OpenText
		}
		if e != api.OK {
			t.Fatalf("a disk with a file: error %d", e)
		}
		_, _, e = stream.Do(d, api.MinBudget, func(w *stream.Work) error {
			r, err := open(w, "a")
			if err != nil {
				return err
			}
			for i := range 40 * r.Count {
				place := i * 37 % r.Count
				r.Seek(place)
				for at := place; at < min(place+i%4, r.Count); at++ {
					want := at
					if width == 0 {
						want /= 2
					}
					if record, err := r.Next(); err != nil || len(record) != max(1, width) || record[0] != want || record[len(record)-1] != want {
						t.Fatalf("width %d, at %d: %v, %v", width, at, record, err)
					}
				}
			}
			for _, place := range []uint64{r.Count, r.Count + 1, math.MaxUint64} {
				r.Seek(place)
				if _, err := r.Next(); !errors.Is(err, api.ErrShort) {
					t.Fatalf("width %d, behind the last one: %v", width, err)
				}
				if err := r.Each(func([]uint64) error { return api.ErrState }); err != nil {
					t.Fatalf("width %d, behind the last one: %v", width, err)
				}
			}
			return nil
		})
		if e != api.OK {
			t.Fatalf("width %d: error %d", width, e)
		}
	}
}

// There are as many frames as were leased, beside those that each operation has: no more than the budget.
func TestLease(t *testing.T) {
	for _, budget := range []int{api.MinBudget, 100, api.MaxFrames} {
		for _, l := range []struct{ one, other int }{{0, 0}, {1, 0}, {3, 5}, {0, budget - 4}, {budget - 5, 1}, {budget - 4, 0}} {
			got, c, e := stream.Do(with(t, 40), budget, func(w *stream.Work) error {
				if err := w.Lease(l.one); err != nil {
					return err
				}
				r, err := w.Open("a")
				if err != nil {
					return err
				}
				if err := w.Lease(l.other); err != nil {
					return err
				}
				if _, pins, leased, e := pool.Counts(w.Pool); pins != 0 || leased != l.one+l.other || e != api.OK {
					t.Errorf("%d frames are pinned, and %d leased: error %d", pins, leased, e)
				}
				for _, many := range []int{budget - 3 - l.one - l.other, budget, 1 << 40} {
					isFault(t, w.Lease(many), "", 0, api.ErrBudget)
				}
				return w.Make("b", 2, r.Count, func(put func(record []uint64) error) error { return r.Each(put) })
			})
			_, many, f := recs.Head(got, "b")
			if e != api.OK || f != api.OK || many != 40 || c.Frames != 4+l.one+l.other {
				t.Fatalf("%d and %d of %d: error %d, and %d; a cost of %+v", l.one, l.other, budget, e, f, c)
			}
		}
	}
}

// An operation knows what is there, and how much room, as it is at the moment; what waits is synced, be there a new file or not.
func TestKnown(t *testing.T) {
	d := with(t, 1)
	d, _ = disk.Write(d, "a", 1, string(make([]byte, api.SectorSize)))
	room, _ := disk.Room(d)
	want, _ := disk.Sync(d)
	got, _, e := stream.Do(d, api.MinBudget, func(w *stream.Work) error {
		if !w.IsThere("a") || w.IsThere("b") || w.IsThere("") || w.Room() != room {
			t.Errorf("ahead: room for %d sectors, not %d", w.Room(), room)
		}
		return nil
	})
	if e != api.OK || !alike(got, want) {
		t.Fatalf("nothing done: error %d", e)
	}
	_, _, e = stream.Do(d, api.MinBudget, func(w *stream.Work) error {
		for i, name := range []string{"b", "c", "d"} {
			err := w.Make(name, 1, 1, func(put func(record []uint64) error) error {
				if !w.IsThere(name) || w.Room() != room-2*i-2 {
					t.Errorf("%s: room for %d sectors, of %d", name, w.Room(), room)
				}
				return put([]uint64{1})
			})
			if err != nil || !w.IsThere(name) || w.Room() != room-2*i-2 {
				t.Errorf("%s: %v, room for %d sectors, of %d", name, err, w.Room(), room)
			}
		}
		return nil
	})
	if e != api.OK {
		t.Fatalf("three files: error %d", e)
	}
}

// Where the power goes in the second file, the first one is whole, and the fuse is what both left of it.
func TestMakeManyPower(t *testing.T) {
	make2 := func(fuse int) (api.Disk, api.Cost, api.Errno) {
		d := with(t, 40)
		d.Fuse = fuse
		return stream.Do(d, api.MinBudget, func(w *stream.Work) error {
			for _, to := range []string{"b", "c"} {
				r, err := w.Open("a")
				if err == nil {
					err = w.Make(to, 2, r.Count, func(put func(record []uint64) error) error { return r.Each(put) })
				}
				if err != nil {
					return err
				}
			}
			return nil
		})
	}
	for fuse := range 20 {
		got, c, e := make2(fuse)
		switch {
		case fuse >= 16:
			if e != api.OK || got.Fuse != fuse-16 || got.Down || len(got.Waits) > 0 || c.Writes != 16 {
				t.Fatalf("with power for %d writes: error %d, a fuse of %d, a cost of %+v", fuse, e, got.Fuse, c)
			}
		case e != api.ErrPower || !got.Down || got.Fuse != 0 || c.Writes != uint64(fuse+1):
			t.Fatalf("with power for %d writes: error %d, a fuse of %d, a cost of %+v", fuse, e, got.Fuse, c)
		}
		crashed, _ := disk.Crash(got)
		_, many, e := recs.Head(crashed, "b")
		if fuse >= 8 && (many != 40 || e != api.OK) || fuse < 8 && e != api.ErrForm {
			t.Fatalf("with power for %d writes: error %d of the first file, of %d records", fuse, e, many)
		}
		if _, _, e := recs.Head(crashed, "c"); fuse < 8 && e != api.ErrNone || fuse >= 8 && fuse < 16 && e != api.ErrForm || fuse >= 16 && e != api.OK {
			t.Fatalf("with power for %d writes: error %d of the second file", fuse, e)
		}
	}
}

// Any many files are made, and read again, by one operation: each lets go of its frames, and has its head when it is made, not earlier.
func TestMakeMany(t *testing.T) {
	got, c, e := stream.Do(with(t, 40), api.MinBudget, func(w *stream.Work) error {
		from := "a"
		for _, to := range []string{"b", "c", "d", "e", "f"} {
			r, err := w.Open(from)
			if err != nil {
				return err
			}
			err = w.Make(to, 2, r.Count, func(put func(record []uint64) error) error {
				if _, err := w.Open(to); !errors.Is(err, api.ErrForm) {
					t.Errorf("a head ahead of the body: %v", err)
				}
				return r.Each(put)
			})
			if err != nil {
				return err
			}
			if _, pins, leased, e := pool.Counts(w.Pool); pins != 0 || leased != 0 || e != api.OK {
				t.Errorf("%d frames are pinned, and %d leased: error %d", pins, leased, e)
			}
			from = to
		}
		return nil
	})
	width, l, f := recs.Read(got, "f")
	if e != api.OK || f != api.OK || width != 2 || !slices.EqualFunc(l, records(40), slices.Equal[[]uint64]) {
		t.Fatalf("error %d, and %d: %v", e, f, l)
	}
	if c.Reads != 40 || c.Writes != 40 {
		t.Fatalf("a cost of %+v", c)
	}
}

// Wherever the power goes, what was synced is in the new file, and what was written since waits, at its place: of a body that is longer than what may wait at a time.
func TestMakePower(t *testing.T) {
	for _, many := range []int{0, 1, 96, 102, 103, 300} {
		whole := with(t, many)
		full := whole.Extents[0].Data
		sectors := len(full) / api.SectorSize
		for fuse := range sectors + 2 {
			d, _ := disk.Make(200)
			d.Fuse = fuse
			got, c, e := stream.Do(d, api.MinBudget, func(w *stream.Work) error {
				return w.Make("a", 2, uint64(many), func(put func(record []uint64) error) error {
					for _, record := range records(many) {
						if err := put(record); err != nil {
							return err
						}
					}
					return nil
				})
			})
			want := api.Disk{Size: 200, Fuse: max(0, fuse-sectors), Extents: []api.Extent{{Name: "a", Data: full}}}
			wantE := api.OK
			if fuse < sectors {
				wantE, want.Down = api.ErrPower, true
				done := fuse / 16 * 16
				if fuse == sectors-1 {
					done = fuse
				}
				data := make([]byte, len(full))
				copy(data[api.SectorSize:], full[api.SectorSize:][:done*api.SectorSize])
				want.Extents[0].Data = string(data)
				for i := done; i <= fuse; i++ {
					sector := (i + 1) % sectors
					want.Waits = append(want.Waits, api.Write{Name: "a", Sector: sector, Data: full[sector*api.SectorSize:][:api.SectorSize]})
				}
			}
			if e != wantE || !alike(got, want) || c.Writes != uint64(min(fuse+1, sectors)) {
				t.Fatalf("%d records, with power for %d writes: error %d, a cost of %+v; %v\nas it should be:\n%v", many, fuse, e, c, got, want)
			}
		}
	}
}

// A text's bytes are read, and put, one by one, each a record of one number; a file of the other kind is refused.
func TestText(t *testing.T) {
	d := with(t, 40)
	text := "\x00\xff and 125 bytes more: " + string(make([]byte, 100))
	d, _ = recs.WriteText(d, "t", text)
	got, c, e := stream.Do(d, api.MinBudget, func(w *stream.Work) error {
		_, err := w.OpenText("a")
		isFault(t, err, "a", 0, api.ErrCode)
		_, err = w.OpenText("none")
		isFault(t, err, "none", 0, api.ErrNone)
		_, err = w.Open("t")
		isFault(t, err, "t", 0, api.ErrCode)
		r, err := w.OpenText("t")
		if err != nil || r.Width != 0 || r.Count != uint64(len(text)) {
			t.Fatalf("OpenText: %v, %+v", err, r)
		}
		return w.Make("u", 0, r.Count, func(put func(record []uint64) error) error {
			place := 0
			return r.Each(func(record []uint64) error {
				if len(record) != 1 || record[0] != uint64(text[place]) {
					t.Fatalf("at %d: %v", place, record)
				}
				place++
				return put(record)
			})
		})
	})
	want, _ := recs.WriteText(d, "u", text)
	if e != api.OK || !alike(got, want) || c != (api.Cost{Reads: 3, Writes: 3, Frames: 4}) {
		t.Fatalf("error %d, a cost of %+v, %v", e, c, got)
	}
	for _, record := range [][]uint64{nil, {256}, {api.MaxNum}, {1, 2}} {
		got, _, e := stream.Do(d, api.MinBudget, func(w *stream.Work) error {
			return w.Make("u", 0, 1, func(put func(record []uint64) error) error {
				err := put(record)
				isFault(t, err, "u", 0, api.ErrRange)
				return err
			})
		})
		if e != api.ErrRange || !alike(got, d) {
			t.Fatalf("%v: error %d", record, e)
		}
	}
}

// Numbers are each from 0 to below as many as there are, once, or they are not, however many there are bits for at a time.
func TestOnce(t *testing.T) {
	once := func(d api.Disk, budget int) (api.Cost, api.Errno) {
		_, c, e := stream.Do(d, budget, func(w *stream.Work) error {
			r, err := w.Open("a")
			if err == nil {
				_, err = r.Next()
			}
			if err != nil && !errors.Is(err, api.ErrShort) {
				return err
			}
			return r.Once()
		})
		return c, e
	}
	for _, many := range []int{0, 1, 2, 100, 8191, 8192, 8193, 20000} {
		l := [][]uint64{}
		for i := range uint64(many) {
			l = append(l, []uint64{(i + 7) % uint64(many), i})
		}
		d, _ := disk.Make(4000)
		d, _ = recs.Write(d, "a", 2, l)
		for _, budget := range []int{api.MinBudget, api.MaxFrames} {
			if c, e := once(d, budget); e != api.OK || c.Writes != 0 || c.Frames > budget {
				t.Fatalf("%d numbers, under %d: error %d, a cost of %+v", many, budget, e, c)
			}
		}
		for _, at := range []int{0, 1, many / 2, many - 1} {
			for _, number := range []uint64{0, uint64(many) / 2, uint64(many) - 1, uint64(many), 8192, api.MaxNum - 1} {
				if at < 0 || at >= many || l[at][0] == number {
					continue
				}
				other, _ := num.Put(number)
				data := []byte(d.Extents[0].Data)
				copy(data[api.SectorSize+10*at:], other)
				wrong := d
				wrong.Extents = []api.Extent{{Name: "a", Data: string(data)}}
				if _, e := once(wrong, api.MinBudget); e != api.ErrCode {
					t.Fatalf("%d numbers, %d at %d: error %d", many, number, at, e)
				}
			}
		}
	}
}

// What is needed is asked for: just as much room, and a sector more.
func TestNeeds(t *testing.T) {
	d := with(t, 40)
	room, _ := disk.Room(d)
	_, _, e := stream.Do(d, api.MinBudget, func(w *stream.Work) error {
		isFault(t, w.Needs("b", room+1), "b", 0, api.ErrFull)
		return w.Needs("b", room)
	})
	if e != api.OK {
		t.Fatalf("just as much room: error %d", e)
	}
}

// Sectors that a frame holds are not read again, whichever file's they are, and under whatever name.
func TestReads(t *testing.T) {
	d := with(t, 40)
	d, _ = recs.Write(d, "1.1", 2, records(6))
	_, c, e := stream.Do(d, api.MinBudget, func(w *stream.Work) error {
		for _, name := range []string{"1.1", "a", "1.1"} {
			r, err := w.Open(name)
			if err != nil {
				return err
			}
			for i := range 6 {
				if record, err := r.Next(); err != nil || !slices.Equal(record, records(6)[i]) {
					t.Errorf("%s: %v, %v", name, record, err)
				}
			}
		}
		return nil
	})
	// Three heads, and a sector of each of two files.
	if e != api.OK || c.Reads != 5 {
		t.Fatalf("error %d, a cost of %+v", e, c)
	}
}

// May tells the new file's errors, and does nothing.
func TestMay(t *testing.T) {
	d := with(t, 40)
	room, _ := disk.Room(d)
	got, c, e := stream.Do(d, api.MinBudget, func(w *stream.Work) error {
		for _, l := range []struct {
			name  string
			width int
			count uint64
			want  api.Errno
		}{
			{"", 2, 1, api.ErrRange}, {"12345678901234567", 2, 1, api.ErrRange}, {"b", 9, 1, api.ErrRange}, {"b", -1, 1, api.ErrRange}, {"b", 1, api.MaxCount + 1, api.ErrRange},
			{"a", 2, 1, api.ErrTwice}, {"a", 1, api.MaxCount, api.ErrTwice}, {"b", 1, api.MaxCount, api.ErrFull}, {"b", 0, uint64(room * api.SectorSize), api.ErrFull},
		} {
			isFault(t, w.May(l.name, l.width, l.count), l.name, 0, l.want)
		}
		if err := w.May("b", 0, uint64((room-1)*api.SectorSize)); err != nil || w.IsThere("b") || w.Room() != room {
			t.Errorf("just as much room: %v, room for %d sectors, of %d", err, w.Room(), room)
		}
		return nil
	})
	if e != api.OK || !alike(got, d) || c.Writes != 0 {
		t.Fatalf("error %d, a cost of %+v", e, c)
	}
}

// made is an operation that makes a file of another one's records, with so many frames leased beside.
func made(from, to string, lease int) func(d api.Disk, budget int) (api.Disk, api.Cost, api.Errno) {
	return func(d api.Disk, budget int) (api.Disk, api.Cost, api.Errno) {
		return stream.Do(d, budget, func(w *stream.Work) error {
			r, err := w.Open(from)
			if err == nil {
				err = w.Lease(lease)
			}
			if err != nil {
				return err
			}
			return w.Make(to, r.Width, r.Count, func(put func(record []uint64) error) error { return r.Each(put) })
		})
	}
}

// Operations one behind the other are one: their costs are added up, of the frames there are the most of one.
func TestLink(t *testing.T) {
	d := with(t, 40)
	got, c, e := stream.Link(d, 100, func(l *stream.Chain) error {
		if l.Budget != 100 || !alike(l.Disk, d) || l.Cost != (api.Cost{}) {
			t.Errorf("at the beginning: %+v", l)
		}
		for _, err := range []error{l.Then(made("a", "b", 3)), l.Then(made("b", "c", 7)), l.Free("b"), l.Then(made("c", "b", 0)), l.Free(), l.Move("c", "x")} {
			if err != nil {
				return err
			}
		}
		return nil
	})
	want, _ := recs.Write(d, "b", 2, records(40))
	want, _ = recs.Write(want, "x", 2, records(40))
	if e != api.OK || !alike(got, want) || c != (api.Cost{Reads: 24, Writes: 24, Frames: 11}) {
		t.Fatalf("error %d, a cost of %+v, %v", e, c, got)
	}
}

// Each file is made of the one ahead, and all but the last one are no more; an error ends it.
func TestThrough(t *testing.T) {
	d := with(t, 40)
	d, _ = recs.Write(d, "~100001", 2, records(1))
	through := func(to string, fails int) (api.Disk, api.Errno, []string) {
		names := []string{}
		maker := func(d api.Disk, budget int, from, to string) (api.Disk, api.Cost, api.Errno) {
			names = append(names, from, to)
			if len(names) == 2*fails {
				return d, api.Cost{}, api.ErrState
			}
			return made(from, to, 0)(d, budget)
		}
		got, _, e := stream.Link(d, api.MinBudget, func(c *stream.Chain) error {
			return c.Through("a", to, maker, maker, maker)
		})
		return got, e, names
	}
	for to, spares := range map[string][]string{"b": {"~100010", "~100011"}, "~100010": {"~100020", "~100021"}, "~10001": {"~100020", "~100021"}} {
		got, e, names := through(to, -1)
		want, _ := recs.Write(d, to, 2, records(40))
		if e != api.OK || !alike(got, want) || !slices.Equal(names, []string{"a", spares[0], spares[0], spares[1], spares[1], to}) {
			t.Fatalf("to %q: error %d, %q", to, e, names)
		}
		for fails := 1; fails <= 3; fails++ {
			if got, e, names := through(to, fails); e != api.ErrState || !alike(got, d) || len(names) != 2*fails {
				t.Fatalf("to %q, the maker %d fails: error %d, %q", to, fails, e, names)
			}
		}
	}
	got, _, e := stream.Link(d, api.MinBudget, func(c *stream.Chain) error { return c.Through("a", "b") })
	if e != api.OK || !alike(got, d) {
		t.Fatalf("no makers: error %d", e)
	}
}

// Of pairs the bytes behind are a text's; what is no byte is refused, and so is what is no file of records.
func TestStrip(t *testing.T) {
	d, _ := disk.Make(200)
	d, _ = recs.Write(d, "a", 2, [][]uint64{{9, 'x'}, {0, 0}, {7, 255}})
	d, _ = recs.Write(d, "b", 2, [][]uint64{{9, 'x'}, {0, 256}})
	d, _ = recs.Write(d, "n", 2, nil)
	d, _ = recs.WriteText(d, "t", "xyz")
	for from, text := range map[string]string{"a": "x\x00\xff", "n": ""} {
		got, c, e := stream.Strip(d, api.MinBudget, from, "to")
		want, _ := recs.WriteText(d, "to", text)
		if e != api.OK || !alike(got, want) || c.Writes != uint64(1+min(1, len(text))) {
			t.Fatalf("Strip of %s: error %d, a cost of %+v, %v", from, e, c, got)
		}
	}
	for from, want := range map[string]api.Errno{"b": api.ErrRange, "t": api.ErrCode, "none": api.ErrNone} {
		if got, c, e := stream.Strip(d, api.MinBudget, from, "to"); e != want || !alike(got, d) || c != (api.Cost{}) {
			t.Fatalf("Strip of %s: error %d, a cost of %+v, %v", from, e, c, got)
		}
	}
}

// The first error that is told refuses all: the disk is as it was, whatever was done.
func TestLinkRefused(t *testing.T) {
	for what, l := range map[string]struct {
		do   func(l *stream.Chain) error
		want api.Errno
	}{
		"a budget that is too small": {func(l *stream.Chain) error { return l.Then(made("a", "c", 97)) }, api.ErrBudget},
		"a file that is there":       {func(l *stream.Chain) error { return l.Then(made("a", "b", 0)) }, api.ErrTwice},
		"no file":                    {func(l *stream.Chain) error { return l.Free("none") }, api.ErrNone},
		"no name":                    {func(l *stream.Chain) error { return l.Move("b", "") }, api.ErrRange},
		"another error":              {func(*stream.Chain) error { return stream.At("a", api.ErrState) }, api.ErrState},
	} {
		d := with(t, 40)
		d, _ = disk.Write(d, "a", 1, string(make([]byte, api.SectorSize)))
		got, c, e := stream.Link(d, 100, func(c *stream.Chain) error {
			if err := c.Then(made("a", "b", 0)); err != nil {
				return err
			}
			return l.do(c)
		})
		if e != l.want || c != (api.Cost{}) || !alike(got, d) {
			t.Errorf("%s: error %d, a cost of %+v, %v", what, e, c, got)
		}
	}
	got, c, e := stream.Link(api.Disk{Size: -1}, 100, func(l *stream.Chain) error { return l.Then(made("a", "b", 0)) })
	if e != api.ErrForm || c != (api.Cost{}) || !alike(got, api.Disk{}) {
		t.Errorf("a disk that is not right: error %d, a cost of %+v, %v", e, c, got)
	}
}

// Where the power goes, the disk is as it is then, and the cost that of all so far.
func TestLinkPower(t *testing.T) {
	for fuse := range 20 {
		d := with(t, 40)
		d.Fuse = fuse
		steps := 0
		got, c, e := stream.Link(d, 100, func(l *stream.Chain) error {
			for _, to := range []string{"b", "c"} {
				if err := l.Then(made("a", to, 0)); err != nil {
					return err
				}
				steps++
			}
			return nil
		})
		want, wantE := fuse+1, api.ErrPower
		if fuse >= 16 {
			want, wantE = 16, api.OK
		}
		if e != wantE || steps != min(2, fuse/8) || c.Writes != uint64(want) || got.Down != (e == api.ErrPower) {
			t.Fatalf("with power for %d writes: error %d, %d steps, a cost of %+v", fuse, e, steps, c)
		}
	}
}

// Nobody's name begins as those of files on the way do.
func TestSpare(t *testing.T) {
	d, _ := disk.Make(api.MaxSectors)
	seen := []string{}
	for i := range 2000 {
		s := stream.Spare(d)
		if s[0] != '~' || len(s) > 6 || slices.ContainsFunc(seen, func(one string) bool { return one == s }) {
			t.Fatalf("behind %d names: %q", i, s)
		}
		seen = append(seen, s)
		// A name may be just that, or longer, and stand anywhere among others.
		d.Extents = append(d.Extents, api.Extent{Name: s + string(make([]byte, i%11)), Data: string(make([]byte, api.SectorSize))})
	}
	if e := disk.Check(d); e != api.OK {
		t.Fatalf("error %d", e)
	}
	none := api.Disk{}
	first := stream.Spare(none)
	for _, others := range [][]string{{first}, {first + "x"}, {"", "x", first + "0000000000"}} {
		if s := stream.Spare(none, others...); s == first || s[0] != '~' {
			t.Errorf("of %q: %q", others, s)
		}
	}
	for _, others := range [][]string{nil, {""}, {"~"}, {first[:5]}, {"x" + first}} {
		if s := stream.Spare(none, others...); s != first {
			t.Errorf("of %q: %q", others, s)
		}
	}
}
