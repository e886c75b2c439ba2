package room_test

import (
	"testing"

	"wringer/api"
	"wringer/recs"
	"wringer/room"
	"wringer/runs"
)

// A file has as many sectors as recs tells.
func TestOfFile(t *testing.T) {
	for width := range api.MaxWidth + 1 {
		for _, many := range []uint64{0, 1, 2, 12, 13, 64, 65, 1000, api.MaxCount} {
			if want, e := recs.Need(width, many); room.OfFile(width, many) != want || e != api.OK {
				t.Fatalf("%d of width %d: error %d, %d sectors, where there should be %d", many, width, e, room.OfFile(width, many), want)
			}
		}
	}
}

// Of more than one run there are all of them, and the new file; of one, and of none, that alone.
func TestOfSort(t *testing.T) {
	for _, budget := range []int{api.MinBudget, api.MinBudget + 1, 99, api.MaxFrames} {
		for width := 1; width <= api.MaxWidth; width++ {
			run, _ := runs.Size(budget, width)
			size := uint64(run)
			for _, many := range []uint64{0, 1, size - 1, size, size + 1, 2*size - 1, 2 * size, 2*size + 1, 5*size + 3, api.MaxCount} {
				want, left := room.OfFile(width, many), many
				if number, _ := runs.Many(budget, width, many); number > 1 {
					for range number {
						one := min(left, size)
						want, left = want+room.OfFile(width, one), left-one
					}
				}
				if got := room.OfSort(budget, width, many); got != want {
					t.Fatalf("%d of width %d, under %d: %d sectors, where there should be %d", many, width, budget, got, want)
				}
				if most := 4*room.OfFile(width, many) + 16; want > most {
					t.Fatalf("%d of width %d, under %d: %d sectors, and at most %d", many, width, budget, want, most)
				}
			}
		}
	}
}
