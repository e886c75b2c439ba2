package layout_test

import (
	"strings"
	"testing"

	"wringer/api"
	"wringer/layout"
)

// head is that of two records of width 1, told by hand.
const head = "WR\x01\x00\x00\x00\x00\x02\xa1\x6f\xd9\xab"

func TestHead(t *testing.T) {
	if got := layout.Head(1, 2); got != head {
		t.Fatalf("the head of two records of width 1: %q", got)
	}
	for width := range api.MaxWidth + 1 {
		for _, count := range []int{0, 1, 255, 256, api.MaxCount, api.MaxCount + 1} {
			w, c, e := layout.ParseHead(layout.Sector(layout.Head(width, count)))
			if w != width || c != uint64(count) || e != api.OK {
				t.Fatalf("%d of width %d are read as %d of width %d, error %d", count, width, c, w, e)
			}
		}
	}
}

func TestParseHeadWrong(t *testing.T) {
	sector := layout.Sector(head)
	for _, l := range []struct {
		what, s string
		want    api.Errno
	}{
		{"nothing", "", api.ErrForm},
		{"a mark alone", "WR", api.ErrForm},
		{"a head without 0 behind it", head, api.ErrForm},
		{"a byte too few", sector[1:], api.ErrForm},
		{"a byte too many", sector + "\x00", api.ErrForm},
		{"another mark", "RW" + sector[2:], api.ErrForm},
		{"too wide", layout.Sector(layout.Head(api.MaxWidth+1, 2)), api.ErrForm},
		{"what is not 0 behind it", sector[:63] + "\x01", api.ErrForm},
		{"another sum", sector[:8] + "\xba" + sector[9:], api.ErrSum},
	} {
		if width, count, e := layout.ParseHead(l.s); width != 0 || count != 0 || e != l.want {
			t.Errorf("%s: %d, %d, error %d, not %d", l.what, width, count, e, l.want)
		}
	}
}

func TestSector(t *testing.T) {
	for n := range api.SectorSize + 1 {
		s := strings.Repeat("x", n)
		if got := layout.Sector(s); got != s+strings.Repeat("\x00", api.SectorSize-n) {
			t.Fatalf("a sector of %d bytes: %q", n, got)
		}
		if layout.IsZero(s) != (n == 0) || !layout.IsZero(layout.Sector("")[:n]) {
			t.Fatalf("%d bytes, that are 0 or not", n)
		}
	}
	for _, l := range [][3]int{{0, 0, 0}, {0, 7, 7}, {1, 0, 0}, {1, 7, 35}, {8, 2, 80}, {8, api.MaxCount, 40 * api.MaxCount}} {
		if got := layout.BodySize(l[0], l[1]); got != l[2] {
			t.Errorf("%d of width %d: %d bytes, not %d", l[1], l[0], got, l[2])
		}
	}
}
