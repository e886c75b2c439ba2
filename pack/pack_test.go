package pack_test

import (
	"math"
	"math/rand/v2"
	"slices"
	"testing"

	"wringer/api"
	"wringer/pack"
)

// made is a package: its weight, and how often each leaf is in it.
type made struct {
	weight uint64
	leaves map[int]int
}

// before tells whether a leaf stands ahead of another one: by weight, alike ones by symbol.
func before(weights []uint64, a, b int) bool {
	return weights[a] < weights[b] || weights[a] == weights[b] && a < b
}

// inOrder are the leaves in order, by the words of chapter 20.
func inOrder(weights []uint64) []int {
	l := []int{}
	for symbol, w := range weights {
		if w == 0 {
			continue
		}
		at := 0
		for at < len(l) && before(weights, l[at], symbol) {
			at++
		}
		l = slices.Insert(l, at, symbol)
	}
	return l
}

// together puts leaves and packages in order by weight, of alike ones leaves first.
func together(leaves, two []made) []made {
	l := []made{}
	for len(leaves) > 0 || len(two) > 0 {
		if len(two) == 0 || len(leaves) > 0 && leaves[0].weight <= two[0].weight {
			l, leaves = append(l, leaves[0]), leaves[1:]
		} else {
			l, two = append(l, two[0]), two[1:]
		}
	}
	return l
}

// told are the symbols' lengths, by the words of chapter 20: each package has the leaves of which it was made.
func told(weights []uint64, limit int) []int {
	lengths, leaves := make([]int, len(weights)), []made{}
	for _, symbol := range inOrder(weights) {
		leaves = append(leaves, made{weights[symbol], map[int]int{symbol: 1}})
	}
	if len(leaves) == 1 {
		lengths[inOrder(weights)[0]] = 1
	}
	if len(leaves) < 2 {
		return lengths
	}
	level := leaves
	for range limit - 1 {
		two := []made{}
		for i := 0; i+1 < len(level); i += 2 {
			both := made{level[i].weight + level[i+1].weight, map[int]int{}}
			for _, one := range level[i : i+2] {
				for symbol, often := range one.leaves {
					both.leaves[symbol] += often
				}
			}
			two = append(two, both)
		}
		level = together(leaves, two)
	}
	for _, p := range level[:2*len(leaves)-2] {
		for symbol, often := range p.leaves {
			lengths[symbol] += often
		}
	}
	return lengths
}

// leaves tells how many weights are above 0.
func leaves(weights []uint64) int {
	many := 0
	for _, w := range weights {
		if w > 0 {
			many++
		}
	}
	return many
}

// each makes so many weights, by a function of their places.
func each(many int, weight func(i int) uint64) []uint64 {
	l := []uint64{}
	for i := range many {
		l = append(l, weight(i))
	}
	return l
}

// some makes weights that are below a number, some of them 0, the same at each run.
func some(many int, below uint64) []uint64 {
	r := rand.New(rand.NewPCG(uint64(many), below))
	return each(many, func(int) uint64 { return r.Uint64N(below) })
}

// weights are some of many kinds, each as many as are told.
func weights(many int) map[string][]uint64 {
	last := 1
	return map[string][]uint64{
		"alike":       each(many, func(int) uint64 { return 1 }),
		"most":        each(many, func(int) uint64 { return api.MaxNum }),
		"rise":        each(many, func(i int) uint64 { return uint64(i + 1) }),
		"fall":        each(many, func(i int) uint64 { return uint64(many - i) }),
		"double":      each(many, func(i int) uint64 { return 1 << (i % 41) }),
		"halve":       each(many, func(i int) uint64 { return 1 << (40 - i%41) }),
		"squares":     each(many, func(i int) uint64 { return uint64(i * i) }),
		"every other": each(many, func(i int) uint64 { return uint64(i % 2) }),
		"one":         each(many, func(i int) uint64 { return uint64(last - min(i, 1)) }),
		"the last":    each(many, func(i int) uint64 { return uint64((i + 1) / many) }),
		"the ends":    each(many, func(i int) uint64 { return uint64((i+1)/many) + uint64(1-min(i, 1)) }),
		"none":        each(many, func(int) uint64 { return 0 }),
		"few kinds":   some(many, 4),
		"many kinds":  some(many, 1000),
		"far apart":   some(many, api.MaxNum),
		"one is more": append(each(many-1, func(int) uint64 { return 1 }), api.MaxNum),
		"one is less": append(each(many-1, func(int) uint64 { return api.MaxNum }), 1),
	}
}

func TestExample(t *testing.T) {
	w := []uint64{1, 1, 2, 4}
	if l, e := pack.Lengths(w, api.MaxLength); e != api.OK || !slices.Equal(l, []int{3, 3, 2, 1}) {
		t.Errorf("error %d, %v", e, l)
	}
	if l, e := pack.Lengths(w, 2); e != api.OK || !slices.Equal(l, []int{2, 2, 2, 2}) {
		t.Errorf("error %d, %v", e, l)
	}
}

// 20.1, 20.4: the lengths of weights of many kinds, at each limit, and whether there is room; too many leaves are told.
func TestLengths(t *testing.T) {
	for _, many := range []int{1, 2, 3, 4, 5, 6, 7, 8, 9, 15, 16, 17, 40, 64, 65, 257, 258, api.MaxAlphabet - 1, api.MaxAlphabet} {
		for what, w := range weights(many) {
			for limit := 1; limit <= api.MaxLength; limit++ {
				l, e := pack.Lengths(w, limit)
				if leaves(w) > 1<<limit {
					if e != api.ErrFull || len(l) != 0 {
						t.Fatalf("%d weights, %s, limit %d: error %d, %v", many, what, limit, e, l)
					}
					continue
				}
				if want := told(w, limit); e != api.OK || !slices.Equal(l, want) {
					t.Fatalf("%d weights, %s, limit %d: error %d, %v, not %v", many, what, limit, e, l, want)
				}
				room, e := pack.Room(l, limit)
				if e != api.OK || room != 0 && leaves(w) > 1 {
					t.Fatalf("%d weights, %s, limit %d: error %d, room %d", many, what, limit, e, room)
				}
			}
		}
	}
}

// 20.1: no leaves have no lengths, and one leaf alone has one of 1, wherever it stands.
func TestFewLeaves(t *testing.T) {
	for limit := 1; limit <= api.MaxLength; limit++ {
		for _, w := range [][]uint64{nil, {}, {0}, {0, 0, 0}, make([]uint64, api.MaxAlphabet)} {
			if l, e := pack.Lengths(w, limit); e != api.OK || !slices.Equal(l, make([]int, len(w))) {
				t.Errorf("%d weights of 0: error %d, %v", len(w), e, l)
			}
		}
		for _, many := range []int{1, 2, 9, api.MaxAlphabet} {
			for at := range many {
				w, want := make([]uint64, many), make([]int, many)
				w[at], want[at] = api.MaxNum, 1
				if l, e := pack.Lengths(w, limit); e != api.OK || !slices.Equal(l, want) {
					t.Fatalf("one leaf of %d, at %d: error %d, %v", many, at, e, l)
				}
			}
		}
		if l, e := pack.Lengths([]uint64{0, 7, 0, api.MaxNum}, limit); e != api.OK || !slices.Equal(l, []int{0, 1, 0, 1}) {
			t.Errorf("two leaves, limit %d: error %d, %v", limit, e, l)
		}
	}
}

// 20.1: alike leaves stand by symbol, and ahead of packages that are alike.
func TestAlike(t *testing.T) {
	for _, c := range []struct {
		weights []uint64
		limit   int
		want    []int
	}{
		{[]uint64{1, 1, 1}, 15, []int{2, 2, 1}},
		{[]uint64{2, 1, 1}, 15, []int{1, 2, 2}},
		{[]uint64{1, 1, 2, 2}, 15, []int{2, 2, 2, 2}},
		{[]uint64{1, 1, 1, 1, 1}, 15, []int{3, 3, 2, 2, 2}},
		{[]uint64{1, 1, 1, 3}, 15, []int{3, 3, 2, 1}},
		{[]uint64{1, 2, 4, 8, 16}, 15, []int{4, 4, 3, 2, 1}},
		{[]uint64{16, 8, 4, 2, 1}, 3, []int{1, 3, 3, 3, 3}},
	} {
		if l, e := pack.Lengths(c.weights, c.limit); e != api.OK || !slices.Equal(l, c.want) {
			t.Errorf("%v, limit %d: error %d, %v, not %v", c.weights, c.limit, e, l, c.want)
		}
	}
}

// wrongWeights are weights that are out of range.
func wrongWeights() map[string][]uint64 {
	return map[string][]uint64{
		"one more":           make([]uint64, api.MaxAlphabet+1),
		"many more":          make([]uint64, 100000),
		"one above MaxNum":   {1, api.MaxNum + 1},
		"the first one":      {api.MaxNum + 1, 0, 1},
		"far above":          {math.MaxUint64},
		"above by high bits": {1<<63 + 1, 1},
		"the last of all":    append(make([]uint64, api.MaxAlphabet-1), api.MaxNum+1),
	}
}

// limits are those that are out of range.
func limits() []int {
	return []int{0, -1, api.MaxLength + 1, 63, 64, 1 << 32, math.MinInt, math.MaxInt}
}

// 20.1, P2: what is out of range is told, ahead of too many leaves, and of all else that is wrong.
func TestRange(t *testing.T) {
	for what, w := range wrongWeights() {
		for limit := 1; limit <= api.MaxLength; limit++ {
			if l, e := pack.Lengths(w, limit); e != api.ErrRange || len(l) != 0 {
				t.Errorf("Lengths, %s: error %d, %v", what, e, l)
			}
		}
		for _, lengths := range [][]int{nil, make([]int, len(w)), slices.Repeat([]int{1}, len(w)), slices.Repeat([]int{-1}, len(w))} {
			if c, e := pack.Cost(w, lengths); e != api.ErrRange || c != 0 {
				t.Errorf("Cost, %s: error %d, %d", what, e, c)
			}
		}
	}
	for _, limit := range limits() {
		for _, w := range [][]uint64{nil, {0}, {1}, {1, 1, 1}, some(api.MaxAlphabet, 9)} {
			if l, e := pack.Lengths(w, limit); e != api.ErrRange || len(l) != 0 {
				t.Errorf("Lengths, limit %d: error %d, %v", limit, e, l)
			}
		}
		for _, lengths := range [][]int{nil, {0}, {1}, {-1}, {99}} {
			if r, e := pack.Room(lengths, limit); e != api.ErrRange || r != 0 {
				t.Errorf("Room, limit %d: error %d, %d", limit, e, r)
			}
		}
	}
	for _, lengths := range [][]int{make([]int, api.MaxAlphabet+1), slices.Repeat([]int{-1}, api.MaxAlphabet+1), make([]int, 100000)} {
		if r, e := pack.Room(lengths, 9); e != api.ErrRange || r != 0 {
			t.Errorf("Room of %d lengths: error %d, %d", len(lengths), e, r)
		}
	}
}

// 20.1: as many leaves as 2 to the limit all have the limit's length; one more is too many.
func TestFull(t *testing.T) {
	for limit := 1; limit <= 9; limit++ {
		most := some(1<<limit, 1000)
		for i := range most {
			most[i]++
		}
		if l, e := pack.Lengths(most, limit); e != api.OK || !slices.Equal(l, slices.Repeat([]int{limit}, 1<<limit)) {
			t.Errorf("limit %d: error %d, %v", limit, e, l)
		}
		if limit == 9 {
			continue
		}
		if l, e := pack.Lengths(append(most, 1), limit); e != api.ErrFull || len(l) != 0 {
			t.Errorf("one more, limit %d: error %d, %v", limit, e, l)
		}
		if l, e := pack.Lengths(append(most, 0, 0), limit); e != api.OK || !slices.Equal(l[:1<<limit], slices.Repeat([]int{limit}, 1<<limit)) {
			t.Errorf("more weights of 0, limit %d: error %d, %v", limit, e, l)
		}
	}
}

// 20.1, P2: what weights cost, and what is wrong with their lengths: too few and too many ahead of what none may be.
func TestCost(t *testing.T) {
	w := []uint64{3, 0, api.MaxNum}
	for _, c := range []struct {
		weights []uint64
		lengths []int
		cost    uint64
		e       api.Errno
	}{
		{nil, nil, 0, api.OK},
		{w, []int{1, 0, 1}, api.MaxNum + 3, api.OK},
		{w, []int{15, 15, 15}, 15*api.MaxNum + 45, api.OK},
		{w, []int{2, 7, 3}, 3*api.MaxNum + 6, api.OK},
		{[]uint64{0, 0}, []int{0, 15}, 0, api.OK},
		{slices.Repeat([]uint64{api.MaxNum}, api.MaxAlphabet), slices.Repeat([]int{15}, api.MaxAlphabet), 15 * api.MaxAlphabet * api.MaxNum, api.OK},
		{w, nil, 0, api.ErrShort},
		{w, []int{1, 0}, 0, api.ErrShort},
		{w, []int{1, 0, 1, 0}, 0, api.ErrShort},
		{w, []int{-1, 99}, 0, api.ErrShort},
		{w, []int{0, 0, 0, 0}, 0, api.ErrShort},
		{nil, []int{1}, 0, api.ErrShort},
		{w, []int{-1, 0, 1}, 0, api.ErrCode},
		{w, []int{1, -1, 1}, 0, api.ErrCode},
		{w, []int{1, 0, 16}, 0, api.ErrCode},
		{w, []int{1, 16, 1}, 0, api.ErrCode},
		{w, []int{0, 0, 1}, 0, api.ErrCode},
		{w, []int{1, 0, 0}, 0, api.ErrCode},
		{w, []int{math.MinInt, 0, math.MaxInt}, 0, api.ErrCode},
		{[]uint64{0}, []int{math.MaxInt}, 0, api.ErrCode},
	} {
		if got, e := pack.Cost(c.weights, c.lengths); e != c.e || got != c.cost {
			t.Errorf("Cost of %d weights, %d lengths: error %d, not %d, %d, not %d", len(c.weights), len(c.lengths), e, c.e, got, c.cost)
		}
	}
}

// 20.2, P2: what room lengths leave, below 0 too, and what is wrong with them.
func TestRoom(t *testing.T) {
	for _, c := range []struct {
		lengths []int
		limit   int
		room    int
		e       api.Errno
	}{
		{nil, 1, 2, api.OK},
		{nil, 15, 1 << 15, api.OK},
		{[]int{0, 0}, 3, 8, api.OK},
		{[]int{1}, 1, 1, api.OK},
		{[]int{1, 1}, 1, 0, api.OK},
		{[]int{1, 1, 1}, 1, -1, api.OK},
		{[]int{3, 0, 2, 1}, 3, 1, api.OK},
		{[]int{15}, 15, 1<<15 - 1, api.OK},
		{slices.Repeat([]int{1}, api.MaxAlphabet), 15, 1<<15 - api.MaxAlphabet<<14, api.OK},
		{slices.Repeat([]int{9}, api.MaxAlphabet), 9, 0, api.OK},
		{slices.Repeat([]int{0}, api.MaxAlphabet), 9, 512, api.OK},
		{[]int{-1}, 3, 0, api.ErrCode},
		{[]int{4}, 3, 0, api.ErrCode},
		{[]int{1, 1, 1, 4}, 3, 0, api.ErrCode},
		{[]int{2, -1, 2}, 3, 0, api.ErrCode},
		{[]int{16}, 15, 0, api.ErrCode},
		{[]int{math.MinInt}, 1, 0, api.ErrCode},
		{[]int{math.MaxInt}, 15, 0, api.ErrCode},
	} {
		if got, e := pack.Room(c.lengths, c.limit); e != c.e || got != c.room {
			t.Errorf("Room of %d lengths, limit %d: error %d, not %d, %d, not %d", len(c.lengths), c.limit, e, c.e, got, c.room)
		}
	}
}

// 20.3: what is answered is its own, and what is handed in stays as it is.
func TestNewMemory(t *testing.T) {
	w := []uint64{9, 0, 1, 4, 4}
	kept := slices.Clone(w)
	one, _ := pack.Lengths(w, 3)
	other, _ := pack.Lengths(w, 3)
	want := slices.Clone(other)
	clear(one)
	if !slices.Equal(other, want) || !slices.Equal(w, kept) {
		t.Errorf("%v were %v, of %v", other, want, w)
	}
	pack.Cost(w, other)
	pack.Room(other, 3)
	if !slices.Equal(other, want) || !slices.Equal(w, kept) {
		t.Errorf("asked, %v were %v, of %v", other, want, w)
	}
	room := []uint64{2, 1, 77, 78}
	if pack.Lengths(room[:2], 3); room[2] != 77 || room[3] != 78 {
		t.Errorf("Lengths wrote behind what it was handed: %v", room)
	}
}
