package stream_test

import (
	"errors"
	"slices"
	"testing"

	"wringer/api"
	"wringer/disk"
	"wringer/pool"
	"wringer/recs"
	"wringer/stream"
)

// records are as many as one is told, of width 2.
func records(many int) [][]uint64 {
	l := [][]uint64{}
	for i := range uint64(many) {
		l = append(l, []uint64{i, 1000 - i})
	}
	return l
}

// with is a disk with a file a of so many records, and room.
func with(t *testing.T, many int) api.Disk {
	t.Helper()
	d, _ := disk.Make(200)
	d, e := recs.Write(d, "a", 2, records(many))
	if e != api.OK {
		t.Fatalf("a disk with a file: error %d", e)
	}
	return d
}

// alike holds two disks against each other; nil and empty lists are alike.
func alike(a, b api.Disk) bool {
	return a.Size == b.Size && a.Fuse == b.Fuse && a.Down == b.Down && slices.Equal(a.Extents, b.Extents) && slices.Equal(a.Waits, b.Waits)
}

// isFault holds an error against the place and the number that it should tell.
func isFault(t *testing.T, err error, name string, sector int, want api.Errno) {
	t.Helper()
	var f *stream.Fault
	if !errors.As(err, &f) || f.Name != name || f.Sector != sector || !errors.Is(err, want) {
		t.Fatalf("%v, where it should be error %d of %s, sector %d", err, want, name, sector)
	}
}

func TestFault(t *testing.T) {
	if err := stream.At("a", api.OK); err != nil {
		t.Errorf("no error: %v", err)
	}
	err := stream.At("a", api.ErrFull)
	isFault(t, err, "a", 0, api.ErrFull)
	if err.Error() != "a, sector 0: full" {
		t.Errorf("an error with its place: %v", err)
	}
}

// Records are read one by one; behind the last one there is none, and each sector is read once.
func TestReader(t *testing.T) {
	d := with(t, 40)
	_, c, e := stream.Do(d, api.MinBudget, func(w *stream.Work) error {
		r, err := w.Open("a")
		if err != nil || r.Width != 2 || r.Count != 40 {
			t.Fatalf("Open: %v, %+v", err, r)
		}
		got := [][]uint64{}
		for range 5 {
			record, err := r.Next()
			if err != nil {
				t.Fatal(err)
			}
			got = append(got, record)
		}
		err = r.Each(func(record []uint64) error {
			got = append(got, record)
			return nil
		})
		if err != nil || !slices.EqualFunc(got, records(40), slices.Equal[[]uint64]) {
			t.Fatalf("Each: %v, %v", err, got)
		}
		_, err = r.Next()
		isFault(t, err, "a", 7, api.ErrShort)
		return r.Each(func([]uint64) error { return stream.At("a", api.ErrState) })
	})
	if e != api.OK || c.Reads != 8 || c.Writes != 0 {
		t.Fatalf("error %d, a cost of %+v", e, c)
	}
}

// The first error that is told ends it all: the disk is as it was, whatever was done.
func TestEnds(t *testing.T) {
	d := with(t, 40)
	told := 0
	got, c, e := stream.Do(d, api.MinBudget, func(w *stream.Work) error {
		r, err := w.Open("a")
		if err != nil {
			return err
		}
		return w.Make("b", 2, r.Count, func(put func(record []uint64) error) error {
			return r.Each(func(record []uint64) error {
				if told++; told > 30 {
					return stream.At("a", api.ErrOrder)
				}
				return put(record)
			})
		})
	})
	if e != api.ErrOrder || (c != api.Cost{}) || !alike(got, d) || told != 31 {
		t.Fatalf("error %d, a cost of %+v, %d records", e, c, told)
	}
}

// What is no record, or more than there is room for, is refused.
func TestPutWrong(t *testing.T) {
	for _, l := range []struct {
		record []uint64
		many   int
		sector int
		want   api.Errno
	}{
		{nil, 1, 0, api.ErrRange},
		{make([]uint64, api.MaxWidth+1), 1, 0, api.ErrRange},
		{[]uint64{0, api.MaxNum}, 1, 0, api.ErrRange},
		{[]uint64{1, 2}, 13, 2, api.ErrRange},
	} {
		d := with(t, 1)
		got, _, e := stream.Do(d, api.MinBudget, func(w *stream.Work) error {
			return w.Make("b", 2, 1, func(put func(record []uint64) error) error {
				for range l.many - 1 {
					if err := put(l.record); err != nil {
						return err
					}
				}
				err := put(l.record)
				isFault(t, err, "b", l.sector, l.want)
				return err
			})
		})
		if e != l.want || !alike(got, d) {
			t.Fatalf("%v, %d times: error %d", l.record, l.many, e)
		}
	}
}

// A reader may begin again, wherever it stands.
func TestRewind(t *testing.T) {
	_, c, e := stream.Do(with(t, 40), api.MinBudget, func(w *stream.Work) error {
		r, err := w.Open("a")
		if err != nil {
			return err
		}
		for _, ahead := range []int{0, 1, 7, 39, 40} {
			for range ahead {
				if _, err := r.Next(); err != nil {
					return err
				}
			}
			r.Rewind()
			got := [][]uint64{}
			err := r.Each(func(record []uint64) error {
				got = append(got, record)
				return nil
			})
			if err != nil || !slices.EqualFunc(got, records(40), slices.Equal[[]uint64]) {
				t.Fatalf("behind %d: %v, %v", ahead, err, got)
			}
			r.Rewind()
		}
		return nil
	})
	if e != api.OK || c.Reads < 36 || c.Writes != 0 {
		t.Fatalf("error %d, a cost of %+v", e, c)
	}
}

// There are as many frames as were leased, beside those that each operation has: no more than the budget.
func TestLease(t *testing.T) {
	for _, budget := range []int{api.MinBudget, 100, api.MaxFrames} {
		for _, l := range []struct{ one, other int }{{0, 0}, {1, 0}, {3, 5}, {0, budget - 4}, {budget - 5, 1}, {budget - 4, 0}} {
			got, c, e := stream.Do(with(t, 40), budget, func(w *stream.Work) error {
				if err := w.Lease(l.one); err != nil {
					return err
				}
				r, err := w.Open("a")
				if err != nil {
					return err
				}
				if err := w.Lease(l.other); err != nil {
					return err
				}
				if _, pins, leased, e := pool.Counts(w.Pool); pins != 0 || leased != l.one+l.other || e != api.OK {
					t.Errorf("%d frames are pinned, and %d leased: error %d", pins, leased, e)
				}
				for _, many := range []int{budget - 3 - l.one - l.other, budget, 1 << 40} {
					isFault(t, w.Lease(many), "", 0, api.ErrBudget)
				}
				return w.Make("b", 2, r.Count, func(put func(record []uint64) error) error { return r.Each(put) })
			})
			_, many, f := recs.Head(got, "b")
			if e != api.OK || f != api.OK || many != 40 || c.Frames != 4+l.one+l.other {
				t.Fatalf("%d and %d of %d: error %d, and %d; a cost of %+v", l.one, l.other, budget, e, f, c)
			}
		}
	}
}

// An operation knows what is there, and how much room, as it is at the moment; what waits is synced, be there a new file or not.
func TestKnown(t *testing.T) {
	d := with(t, 1)
	d, _ = disk.Write(d, "a", 1, string(make([]byte, api.SectorSize)))
	room, _ := disk.Room(d)
	want, _ := disk.Sync(d)
	got, _, e := stream.Do(d, api.MinBudget, func(w *stream.Work) error {
		if !w.IsThere("a") || w.IsThere("b") || w.IsThere("") || w.Room() != room {
			t.Errorf("ahead: room for %d sectors, not %d", w.Room(), room)
		}
		return nil
	})
	if e != api.OK || !alike(got, want) {
		t.Fatalf("nothing done: error %d", e)
	}
	_, _, e = stream.Do(d, api.MinBudget, func(w *stream.Work) error {
		for i, name := range []string{"b", "c", "d"} {
			err := w.Make(name, 1, 1, func(put func(record []uint64) error) error {
				if !w.IsThere(name) || w.Room() != room-2*i-2 {
					t.Errorf("%s: room for %d sectors, of %d", name, w.Room(), room)
				}
				return put([]uint64{1})
			})
			if err != nil || !w.IsThere(name) || w.Room() != room-2*i-2 {
				t.Errorf("%s: %v, room for %d sectors, of %d", name, err, w.Room(), room)
			}
		}
		return nil
	})
	if e != api.OK {
		t.Fatalf("three files: error %d", e)
	}
}

// Where the power goes in the second file, the first one is whole, and the fuse is what both left of it.
func TestMakeManyPower(t *testing.T) {
	make2 := func(fuse int) (api.Disk, api.Cost, api.Errno) {
		d := with(t, 40)
		d.Fuse = fuse
		return stream.Do(d, api.MinBudget, func(w *stream.Work) error {
			for _, to := range []string{"b", "c"} {
				r, err := w.Open("a")
				if err == nil {
					err = w.Make(to, 2, r.Count, func(put func(record []uint64) error) error { return r.Each(put) })
				}
				if err != nil {
					return err
				}
			}
			return nil
		})
	}
	for fuse := range 20 {
		got, c, e := make2(fuse)
		switch {
		case fuse >= 16:
			if e != api.OK || got.Fuse != fuse-16 || got.Down || len(got.Waits) > 0 || c.Writes != 16 {
				t.Fatalf("with power for %d writes: error %d, a fuse of %d, a cost of %+v", fuse, e, got.Fuse, c)
			}
		case e != api.ErrPower || !got.Down || got.Fuse != 0 || c.Writes != uint64(fuse+1):
			t.Fatalf("with power for %d writes: error %d, a fuse of %d, a cost of %+v", fuse, e, got.Fuse, c)
		}
		crashed, _ := disk.Crash(got)
		_, many, e := recs.Head(crashed, "b")
		if fuse >= 8 && (many != 40 || e != api.OK) || fuse < 8 && e != api.ErrForm {
			t.Fatalf("with power for %d writes: error %d of the first file, of %d records", fuse, e, many)
		}
		if _, _, e := recs.Head(crashed, "c"); fuse < 8 && e != api.ErrNone || fuse >= 8 && fuse < 16 && e != api.ErrForm || fuse >= 16 && e != api.OK {
			t.Fatalf("with power for %d writes: error %d of the second file", fuse, e)
		}
	}
}

// Any many files are made, and read again, by one operation: each lets go of its frames, and has its head when it is made, not earlier.
func TestMakeMany(t *testing.T) {
	got, c, e := stream.Do(with(t, 40), api.MinBudget, func(w *stream.Work) error {
		from := "a"
		for _, to := range []string{"b", "c", "d", "e", "f"} {
			r, err := w.Open(from)
			if err != nil {
				return err
			}
			err = w.Make(to, 2, r.Count, func(put func(record []uint64) error) error {
				if _, err := w.Open(to); !errors.Is(err, api.ErrForm) {
					t.Errorf("a head ahead of the body: %v", err)
				}
				return r.Each(put)
			})
			if err != nil {
				return err
			}
			if _, pins, leased, e := pool.Counts(w.Pool); pins != 0 || leased != 0 || e != api.OK {
				t.Errorf("%d frames are pinned, and %d leased: error %d", pins, leased, e)
			}
			from = to
		}
		return nil
	})
	width, l, f := recs.Read(got, "f")
	if e != api.OK || f != api.OK || width != 2 || !slices.EqualFunc(l, records(40), slices.Equal[[]uint64]) {
		t.Fatalf("error %d, and %d: %v", e, f, l)
	}
	if c.Reads != 40 || c.Writes != 40 {
		t.Fatalf("a cost of %+v", c)
	}
}
