package pack_test

import (
	"math"
	"math/rand/v2"
	"runtime"
	"slices"
	"testing"

	"wringer/api"
	"wringer/pack"
)

// least tells what the weights cost at least, none of their lengths above the limit: of each leaf, by how much room those so far take.
func least(weights []uint64, limit int) uint64 {
	costs := make([]uint64, 1<<limit+1)
	for i := range costs {
		costs[i] = math.MaxUint64
	}
	costs[0] = 0
	for _, w := range weights {
		if w == 0 {
			continue
		}
		more := slices.Repeat([]uint64{math.MaxUint64}, len(costs))
		for taken, cost := range costs {
			if cost == math.MaxUint64 {
				continue
			}
			for length := 1; length <= limit; length++ {
				if now := taken + 1<<(limit-length); now < len(more) {
					more[now] = min(more[now], cost+w*uint64(length))
				}
			}
		}
		costs = more
	}
	return slices.Min(costs)
}

// all goes through all lengths of so many symbols, none above the limit.
func all(many, limit int, each func(lengths []int)) {
	lengths := make([]int, many)
	for {
		each(lengths)
		at := 0
		for at < many && lengths[at] == limit {
			lengths[at] = 0
			at++
		}
		if at == many {
			return
		}
		lengths[at]++
	}
}

// 20.2, 20.5: of a few weights no other lengths at all that have room cost less.
func TestLeastOfAll(t *testing.T) {
	r := rand.New(rand.NewPCG(20, 5))
	for range 60 {
		many, limit := 1+r.IntN(5), 3+r.IntN(2)
		w := each(many, func(int) uint64 { return r.Uint64N(1 << r.IntN(7)) })
		l, e := pack.Lengths(w, limit)
		cost, f := pack.Cost(w, l)
		if e != api.OK || f != api.OK {
			t.Fatalf("%v, limit %d: error %d, and %d", w, limit, e, f)
		}
		all(many, limit, func(other []int) {
			room, e := pack.Room(other, limit)
			less, f := pack.Cost(w, other)
			if e == api.OK && f == api.OK && room >= 0 && less < cost {
				t.Fatalf("%v, limit %d: %v costs %d, %v %d", w, limit, l, cost, other, less)
			}
		})
	}
}

// 20.5: the cost is the least that there is, found otherwise, at each limit that the leaves fit.
func TestLeast(t *testing.T) {
	for _, many := range []int{2, 3, 5, 8, 13, 30, 64, 100} {
		for what, w := range weights(many) {
			for limit := 1; limit <= 9; limit++ {
				if leaves(w) > 1<<limit {
					continue
				}
				l, e := pack.Lengths(w, limit)
				cost, f := pack.Cost(w, l)
				if want := least(w, limit); e != api.OK || f != api.OK || cost != want {
					t.Fatalf("%d weights, %s, limit %d: error %d and %d, %d, not %d", many, what, limit, e, f, cost, want)
				}
			}
		}
	}
}

// 20.1, P1, P3, P4: whatever is handed in, each call answers the same twice, and leaves no goroutine.
func TestWhatever(t *testing.T) {
	before := runtime.NumGoroutine()
	r := rand.New(rand.NewPCG(20, 20))
	for range 5000 {
		w := each(r.IntN(40), func(int) uint64 { return r.Uint64N(1 << r.IntN(42)) })
		lengths := make([]int, max(0, len(w)+r.IntN(7)/6))
		for i := range lengths {
			lengths[i] = r.IntN(4) + r.IntN(30)/29*r.IntN(20) - r.IntN(100)/99
		}
		limit := r.IntN(18) - 1
		one, e := pack.Lengths(w, limit)
		other, f := pack.Lengths(w, limit)
		if !slices.Equal(one, other) || e != f {
			t.Fatalf("Lengths of %v, limit %d: error %d, and %d", w, limit, e, f)
		}
		if e == api.OK && !slices.Equal(one, told(w, limit)) {
			t.Fatalf("Lengths of %v, limit %d: %v", w, limit, one)
		}
		c, e := pack.Cost(w, lengths)
		d, f := pack.Cost(w, lengths)
		if c != d || e != f {
			t.Fatalf("Cost of %v, %v: error %d, and %d", w, lengths, e, f)
		}
		x, e := pack.Room(lengths, limit)
		y, f := pack.Room(lengths, limit)
		if x != y || e != f {
			t.Fatalf("Room of %v, limit %d: error %d, and %d", lengths, limit, e, f)
		}
	}
	if after := runtime.NumGoroutine(); after > before {
		t.Errorf("%d goroutines, where %d were", after, before)
	}
}
