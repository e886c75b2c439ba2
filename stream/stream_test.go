package stream_test

import (
	"errors"
	"slices"
	"testing"

	"wringer/api"
	"wringer/disk"
	"wringer/pool"
	"wringer/recs"
	"wringer/stream"
)

// records are as many as one is told, of width 2.
func records(many int) [][]uint64 {
	l := [][]uint64{}
	for i := range uint64(many) {
		l = append(l, []uint64{i, 1000 - i})
	}
	return l
}

// with is a disk with a file a of so many records, and room.
func with(t *testing.T, many int) api.Disk {
	t.Helper()
	d, _ := disk.Make(200)
	d, e := recs.Write(d, "a", 2, records(many))
	if e != api.OK {
		t.Fatalf("a disk with a file: error %d", e)
	}
	return d
}

// alike holds two disks against each other; nil and empty lists are alike.
func alike(a, b api.Disk) bool {
	return a.Size == b.Size && a.Fuse == b.Fuse && a.Down == b.Down && slices.Equal(a.Extents, b.Extents) && slices.Equal(a.Waits, b.Waits)
}

// isFault holds an error against the place and the number that it should tell.
func isFault(t *testing.T, err error, name string, sector int, want api.Errno) {
	t.Helper()
	var f *stream.Fault
	if !errors.As(err, &f) || f.Name != name || f.Sector != sector || !errors.Is(err, want) {
		t.Fatalf("%v, where it should be error %d of %s, sector %d", err, want, name, sector)
	}
}

func TestFault(t *testing.T) {
	if err := stream.At("a", api.OK); err != nil {
		t.Errorf("no error: %v", err)
	}
	err := stream.At("a", api.ErrFull)
	isFault(t, err, "a", 0, api.ErrFull)
	if err.Error() != "a, sector 0: full" {
		t.Errorf("an error with its place: %v", err)
	}
}

// Records are read one by one; behind the last one there is none, and each sector is read once.
func TestReader(t *testing.T) {
	d := with(t, 40)
	_, c, e := stream.Do(d, api.MinBudget, func(w *stream.Work) error {
		r, err := w.Open("a")
		if err != nil || r.Width != 2 || r.Count != 40 {
			t.Fatalf("Open: %v, %+v", err, r)
		}
		got := [][]uint64{}
		for range 5 {
			record, err := r.Next()
			if err != nil {
				t.Fatal(err)
			}
			got = append(got, record)
		}
		err = r.Each(func(record []uint64) error {
			got = append(got, record)
			return nil
		})
		if err != nil || !slices.EqualFunc(got, records(40), slices.Equal[[]uint64]) {
			t.Fatalf("Each: %v, %v", err, got)
		}
		_, err = r.Next()
		isFault(t, err, "a", 7, api.ErrShort)
		return r.Each(func([]uint64) error { return stream.At("a", api.ErrState) })
	})
	if e != api.OK || c.Reads != 8 || c.Writes != 0 {
		t.Fatalf("error %d, a cost of %+v", e, c)
	}
}

// The first error that is told ends it all: the disk is as it was, whatever was done.
func TestEnds(t *testing.T) {
	d := with(t, 40)
	told := 0
	got, c, e := stream.Do(d, api.MinBudget, func(w *stream.Work) error {
		r, err := w.Open("a")
		if err != nil {
			return err
		}
		return w.Make("b", 2, r.Count, func(put func(record []uint64) error) error {
			return r.Each(func(record []uint64) error {
				if told++; told > 30 {
					return stream.At("a", api.ErrOrder)
				}
				return put(record)
			})
		})
	})
	if e != api.ErrOrder || (c != api.Cost{}) || !alike(got, d) || told != 31 {
		t.Fatalf("error %d, a cost of %+v, %d records", e, c, told)
	}
}

// What is no record, or more than there is room for, is refused.
func TestPutWrong(t *testing.T) {
	for _, l := range []struct {
		record []uint64
		many   int
		sector int
		want   api.Errno
	}{
		{nil, 1, 0, api.ErrRange},
		{make([]uint64, api.MaxWidth+1), 1, 0, api.ErrRange},
		{[]uint64{0, api.MaxNum}, 1, 0, api.ErrRange},
		{[]uint64{1, 2}, 13, 2, api.ErrRange},
	} {
		d := with(t, 1)
		got, _, e := stream.Do(d, api.MinBudget, func(w *stream.Work) error {
			return w.Make("b", 2, 1, func(put func(record []uint64) error) error {
				for range l.many - 1 {
					if err := put(l.record); err != nil {
						return err
					}
				}
				err := put(l.record)
				isFault(t, err, "b", l.sector, l.want)
				return err
			})
		})
		if e != l.want || !alike(got, d) {
			t.Fatalf("%v, %d times: error %d", l.record, l.many, e)
		}
	}
}

// Any many files are made, and read again, by one operation: each lets go of its frames, and has its head when it is made, not earlier.
func TestMakeMany(t *testing.T) {
	got, c, e := stream.Do(with(t, 40), api.MinBudget, func(w *stream.Work) error {
		from := "a"
		for _, to := range []string{"b", "c", "d", "e", "f"} {
			r, err := w.Open(from)
			if err != nil {
				return err
			}
			err = w.Make(to, 2, r.Count, func(put func(record []uint64) error) error {
				if _, err := w.Open(to); !errors.Is(err, api.ErrForm) {
					t.Errorf("a head ahead of the body: %v", err)
				}
				return r.Each(put)
			})
			if err != nil {
				return err
			}
			if _, pins, leased, e := pool.Counts(w.Pool); pins != 0 || leased != 0 || e != api.OK {
				t.Errorf("%d frames are pinned, and %d leased: error %d", pins, leased, e)
			}
			from = to
		}
		return nil
	})
	width, l, f := recs.Read(got, "f")
	if e != api.OK || f != api.OK || width != 2 || !slices.EqualFunc(l, records(40), slices.Equal[[]uint64]) {
		t.Fatalf("error %d, and %d: %v", e, f, l)
	}
	if c.Reads != 40 || c.Writes != 40 {
		t.Fatalf("a cost of %+v", c)
	}
}
