package table_test

import (
	"math"
	"math/rand/v2"
	"runtime"
	"slices"
	"strings"
	"testing"
	"unsafe"

	"wringer/api"
	"wringer/table"
)

// wrongs are lengths that have no bits, of many kinds.
func wrongs() [][]int {
	return [][]int{
		nil, {}, {2}, {15}, {1, 2}, {2, 2}, {1, 1, 1}, {1, 1, 15}, {16}, {1, 1, 16}, {-1}, {1, 1, -1}, {-1, 1}, {math.MaxInt}, {1, math.MinInt, 1}, {0, math.MaxInt, math.MinInt},
		steep()[:15], append(steep(), 15), slices.Repeat([]int{10}, api.MaxAlphabet), make([]int, api.MaxAlphabet+1), alone(api.MaxAlphabet+1, 5), make([]int, 100000),
	}
}

// wrongBits are bits made by hand that are not right.
func wrongBits() []api.Bitstr {
	return []api.Bitstr{{N: 1}, {N: -1}, {B: "\x00", N: 0}, {B: "\x11", N: 7}, {B: "\x14", N: 5}, {N: math.MaxInt}, {N: math.MinInt}, {B: string(make([]byte, api.MaxBits/8+1)), N: api.MaxBits + 1}}
}

// isWrite holds what Write tells against what it should.
func isWrite(t *testing.T, b api.Bitstr, lengths []int, want api.Bitstr, wantE api.Errno) {
	t.Helper()
	if got, e := table.Write(b, lengths); got != want || e != wantE {
		t.Fatalf("Write of %d lengths: %d bits, error %d; not %d bits, error %d, as it should be", len(lengths), got.N, e, want.N, wantE)
	}
}

// isRead holds what Read tells against what it should.
func isRead(t *testing.T, what string, b api.Bitstr, at, n int, want []int, wantAt int, wantE api.Errno) {
	t.Helper()
	if l, behind, e := table.Read(b, at, n); !slices.Equal(l, want) || behind != wantAt || e != wantE {
		t.Fatalf("Read of %d at %d, %s: %v, at %d, error %d; not %v, at %d, error %d, as it should be", n, at, what, l, behind, e, want, wantAt, wantE)
	}
}

// isSize holds what Size tells against what it should.
func isSize(t *testing.T, lengths []int, want int, wantE api.Errno) {
	t.Helper()
	if n, e := table.Size(lengths); n != want || e != wantE {
		t.Fatalf("Size of %d lengths: %d, error %d; not %d, error %d, as it should be", len(lengths), n, e, want, wantE)
	}
}

func TestExample(t *testing.T) {
	b := bitsOf("0001" + "0" + "0")
	isWrite(t, api.Bitstr{}, []int{1, 1}, b, api.OK)
	isRead(t, "the example", b, 0, 2, []int{1, 1}, 6, api.OK)
	isSize(t, []int{1, 1}, 6, api.OK)
}

// 22.1: the bits of lengths of many kinds, behind any many, and how many they are.
func TestWrite(t *testing.T) {
	for _, l := range rights() {
		s := told(l)
		isSize(t, l, len(s), api.OK)
		for ahead := range 10 {
			isWrite(t, bitsOf(some(ahead, 1)), l, bitsOf(some(ahead, 1)+s), api.OK)
		}
	}
	for _, c := range []struct {
		lengths []int
		want    string
	}{
		{[]int{0}, "0000 0"},
		{[]int{1}, "0001 0"},
		{[]int{0, 1}, "0000 0 10 0"},
		{[]int{1, 0}, "0001 0 11 0"},
		{[]int{2, 1, 0, 2}, "0010 0 11 0 11 0 10 10 0"},
		{[]int{3, 1, 3, 2}, "0011 0 11 11 0 10 10 0 11 0"},
		{[]int{2, 2, 2, 2}, "0010 0 0 0 0"},
		{[]int{1, 3, 3, 0, 3, 3}, "0001 0 10 10 0 0 11 11 11 0 10 10 10 0 0"},
	} {
		want := strings.ReplaceAll(c.want, " ", "")
		isWrite(t, api.Bitstr{}, c.lengths, bitsOf(want), api.OK)
		isSize(t, c.lengths, len(want), api.OK)
	}
	isSize(t, make([]int, api.MaxAlphabet), 4+api.MaxAlphabet, api.OK)
}

// 22.1, P2: what is wrong with bits is told ahead of what is wrong with lengths; with both all else is zero.
func TestWriteWrong(t *testing.T) {
	most := bitsOf(some(api.MaxBits, 2))
	for _, l := range wrongs() {
		isSize(t, l, 0, api.ErrCode)
		for _, b := range []api.Bitstr{{}, bitsOf("1"), bitsOf("10110"), most} {
			isWrite(t, b, l, api.Bitstr{}, api.ErrCode)
		}
	}
	for _, b := range wrongBits() {
		for _, l := range append(wrongs(), []int{1, 1}, []int{0}) {
			isWrite(t, b, l, api.Bitstr{}, api.ErrForm)
		}
	}
}

// 22.1: up to MaxBits there is room, and behind it bits are as they were.
func TestWriteFull(t *testing.T) {
	for _, l := range [][]int{{0}, {1, 1}, {2, 1, 0, 2}, steep(), make([]int, api.MaxAlphabet), full(api.MaxAlphabet, 0, 5)} {
		s := told(l)
		ahead := some(api.MaxBits-len(s), 3)
		isWrite(t, bitsOf(ahead), l, bitsOf(ahead+s), api.OK)
		for _, more := range []string{"0", "1", "10110", s} {
			b := bitsOf(ahead + more)
			isWrite(t, b, l, b, api.ErrFull)
		}
	}
}

// 22.2, 22.4: what was written is read, whatever stands ahead of it and behind it.
func TestThereAndBack(t *testing.T) {
	for _, l := range rights() {
		s := told(l)
		for ahead := range 10 {
			for _, behind := range []string{"", "0", "1", "0110", "1111111"} {
				isRead(t, "written", bitsOf(some(ahead, 4)+s+behind), ahead, len(l), l, ahead+len(s), api.OK)
			}
		}
		b, e := table.Write(bitsOf("101"), l)
		if e != api.OK {
			t.Fatalf("%v: error %d", l, e)
		}
		isRead(t, "written", b, 3, len(l), l, b.N, api.OK)
		if len(l) > 1 {
			again, behind, e := read(s, 0, len(l)-1)
			isRead(t, "one fewer", bitsOf(s), 0, len(l)-1, again, behind, e)
		}
		if len(l) < api.MaxAlphabet {
			isRead(t, "one more", bitsOf(s), 0, len(l)+1, nil, 0, api.ErrShort)
		}
	}
}

// 22.2: bits that end in the four, in a step, and ahead of a 0: wherever they end, that is told.
func TestReadShort(t *testing.T) {
	for _, l := range rights() {
		s := told(l)
		for long := range min(len(s), 600) {
			isRead(t, "its beginning", bitsOf(s[:long]), 0, len(l), nil, 0, api.ErrShort)
			isRead(t, "its beginning", bitsOf("11"+s[:long]), 2, len(l), nil, 0, api.ErrShort)
		}
		isRead(t, "all but the last", bitsOf(s[:len(s)-1]), 0, len(l), nil, 0, api.ErrShort)
	}
	for _, s := range []string{"", "0", "000", "1111", "0001", "00010", "0001 01", "0001 010", "0001 011", "0001 01010", "0000 01", "1111 01", "0001 1", "1111 1", "0000 1", "0001 10", "0001 11", "0001 1010", "0001 101"} {
		isRead(t, s, bitsOf(strings.ReplaceAll(s, " ", "")), 0, 2, nil, 0, api.ErrShort)
	}
}

// 22.2: steps that lead nowhere are told where they stand, be there more bits behind them or not.
func TestReadWrong(t *testing.T) {
	for _, s := range []string{
		"0000 11", "0000 0 11", "0001 0 1111", "0010 0 111111", "0010 0 11 0 1111", // below 0
		"1111 10", "1111 0 10", "1110 0 1010", "1110 0 10 0 10", "0001 0 101010101010101010101010101010", // above MaxLength
		"0001 0 1110", "0101 0 1110", "0101 0 111110", "0101 0 11 0 1110", // up behind one down
		"0001 0 1011", "0101 0 1011", "0101 0 101011", "0101 0 11 0 1011", // down behind one up
		"0001 1011", "0101 1110", "0001 1110", "1111 1110", "0000 1011", // there and back, of the first one
		"0001 100", "0001 110", "0101 10100", "0111 1111110", "1110 100", // the first one is another one
	} {
		b := strings.ReplaceAll(s, " ", "")
		for _, behind := range []string{"", "0", "1", "00000000", "10101010", some(40, 5)} {
			isRead(t, s, bitsOf(b+behind), 0, 3, nil, 0, api.ErrCode)
			isRead(t, s, bitsOf("01"+b+behind), 2, 3, nil, 0, api.ErrCode)
			isRead(t, s, bitsOf(b+behind), 0, api.MaxAlphabet, nil, 0, api.ErrCode)
		}
	}
}

// 22.2: up behind down, and down behind up, are right where they are of the next length.
func TestReadTurns(t *testing.T) {
	for s, want := range map[string][]int{
		"0001 0 10 0 11 0 11 0 10 10 0":      {1, 2, 1, 0, 2},
		"0010 0 11 0 10 0":                   {2, 1, 2},
		"0000 0 10 0 11 0":                   {0, 1, 0},
		"0011 0 11 11 0 10 10 0 11 0":        {3, 1, 3, 2},
		"0010 0 11 11 0 10 0 11 0 10 10 0 0": {2, 0, 1, 0, 2, 2},
	} {
		b := strings.ReplaceAll(s, " ", "")
		wantE, wantAt := api.OK, len(b)
		if !isRight(want) {
			want, wantE, wantAt = nil, api.ErrCode, 0
		}
		n := strings.Count(s, " 0")
		isRead(t, s, bitsOf(b), 0, n, want, wantAt, wantE)
	}
}

// 22.2: lengths that are read and are not right are told in the end.
func TestReadNotRight(t *testing.T) {
	for _, l := range [][]int{{2}, {15}, {1, 2}, {2, 2}, {1, 1, 1}, {1, 1, 15}, {2, 2, 2}, steep()[:15], append(steep(), 15), slices.Repeat([]int{10}, api.MaxAlphabet), slices.Repeat([]int{1}, api.MaxAlphabet)} {
		s := told(l)
		isRead(t, "not right", bitsOf(s), 0, len(l), nil, 0, api.ErrCode)
		isRead(t, "not right", bitsOf("1"+s+"0"), 1, len(l), nil, 0, api.ErrCode)
		isRead(t, "not right, and it ends ahead", bitsOf(s[:len(s)-1]), 0, len(l), nil, 0, api.ErrShort)
	}
}

// 22.2, P2: bits that are not right, places and numbers that are none, in this order, and all that may be.
func TestReadRange(t *testing.T) {
	b := bitsOf("0001000" + "00000000")
	for _, n := range []int{0, -1, api.MaxAlphabet + 1, 1 << 32, math.MinInt, math.MaxInt} {
		for _, at := range []int{-1, 0, 3, b.N, b.N + 1} {
			isRead(t, "no such number", b, at, n, nil, 0, api.ErrRange)
			isRead(t, "no such number of nothing", api.Bitstr{}, at, n, nil, 0, api.ErrRange)
		}
	}
	for _, at := range []int{-1, b.N + 1, 1 << 32, math.MinInt, math.MaxInt} {
		for _, n := range []int{1, 2, api.MaxAlphabet} {
			isRead(t, "no such place", b, at, n, nil, 0, api.ErrRange)
		}
	}
	isRead(t, "one", b, 0, 1, []int{1}, 5, api.OK)
	isRead(t, "the end", b, b.N, 1, nil, 0, api.ErrShort)
	isRead(t, "nothing", api.Bitstr{}, 0, 1, nil, 0, api.ErrShort)
	isRead(t, "as many as may be, of too few bits", b, 0, api.MaxAlphabet, nil, 0, api.ErrShort)
	zero := bitsOf(strings.Repeat("0", 4+api.MaxAlphabet))
	isRead(t, "as many as may be", zero, 0, api.MaxAlphabet, make([]int, api.MaxAlphabet), zero.N, api.OK)
	isRead(t, "one more", zero, 0, api.MaxAlphabet+1, nil, 0, api.ErrRange)
	for _, w := range wrongBits() {
		for _, n := range []int{-1, 0, 1, 2, api.MaxAlphabet + 1} {
			isRead(t, "bits that are not right", w, 0, n, nil, 0, api.ErrForm)
			isRead(t, "bits that are not right", w, -1, n, nil, 0, api.ErrForm)
		}
	}
	s := some(api.MaxBits-6, 6) + "000100"
	isRead(t, "the last of MaxBits", bitsOf(s), api.MaxBits-6, 2, []int{1, 1}, api.MaxBits, api.OK)
	isRead(t, "past MaxBits", bitsOf(s), api.MaxBits-6, 3, nil, 0, api.ErrShort)
}

// 22.2, 22.4: each text of up to fifteen bits, as one length and as more: what is read has just these bits.
func TestReadAll(t *testing.T) {
	right := 0
	for long := range 16 {
		for v := range uint64(1 << long) {
			s := digits(v, long)[:long]
			for n := 1; n <= 5; n++ {
				l, behind, e := read(s, 0, n)
				isRead(t, s, bitsOf(s), 0, n, l, behind, e)
				if e == api.OK {
					isWrite(t, api.Bitstr{}, l, bitsOf(s[:behind]), api.OK)
					right++
				}
			}
		}
	}
	if right < 1000 {
		t.Errorf("only %d were right", right)
	}
}

// 22.3: what is answered is its own, and what is handed in stays as it is.
func TestNewMemory(t *testing.T) {
	l, b := []int{2, 1, 0, 2, 77, 78}[:4], bitsOf(some(80, 7))
	c, _ := table.Write(b, l)
	one, _, _ := table.Read(c, b.N, 4)
	other, _, _ := table.Read(c, b.N, 4)
	table.Size(l)
	clear(one)
	if !slices.Equal(other, []int{2, 1, 0, 2}) || !slices.Equal(l[:6], []int{2, 1, 0, 2, 77, 78}) {
		t.Errorf("%v, and %v", other, l[:6])
	}
	clear(l)
	if c != bitsOf(some(80, 7)+told([]int{2, 1, 0, 2})) || b != bitsOf(some(80, 7)) {
		t.Error("bits have changed")
	}
	most := bitsOf(some(api.MaxBits, 8))
	if a, e := table.Write(most, []int{1, 1}); e != api.ErrFull || a != most || unsafe.StringData(a.B) == unsafe.StringData(most.B) {
		t.Errorf("error %d, %d bits", e, a.N)
	}
}

// P1, P3, P4: whatever bits there are, each call answers the same twice, as the words of chapter 22 say, and leaves no goroutine.
func TestWhatever(t *testing.T) {
	before := runtime.NumGoroutine()
	r := rand.New(rand.NewPCG(22, 22))
	for range 20000 {
		l := full(2+r.IntN(12), r.IntN(3), r.Uint64())
		s, n := []byte(some(r.IntN(9), r.Uint64())+told(l)+some(r.IntN(9), r.Uint64())), len(l)+r.IntN(9)/8
		if r.IntN(2) == 0 {
			s[r.IntN(len(s))] ^= 1
		}
		at := r.IntN(10)
		want, wantAt, wantE := read(string(s), at, n)
		one, behind, e := table.Read(bitsOf(string(s)), at, n)
		other, end, f := table.Read(bitsOf(string(s)), at, n)
		if !slices.Equal(one, other) || behind != end || e != f || !slices.Equal(one, want) || behind != wantAt || e != wantE {
			t.Fatalf("Read of %d at %d of %q: %v, at %d, error %d; not %v, at %d, error %d", n, at, s, one, behind, e, want, wantAt, wantE)
		}
		if r.IntN(2) == 0 {
			l[r.IntN(len(l))] += r.IntN(3) - 1
		}
		size, e := table.Size(l)
		b, f := table.Write(api.Bitstr{}, l)
		again, g := table.Write(api.Bitstr{}, l)
		if b != again || e != f || f != g || b.N != size || isRight(l) != (e == api.OK) {
			t.Fatalf("%v: errors %d, %d, %d, a size of %d", l, e, f, g, size)
		}
	}
	if after := runtime.NumGoroutine(); after > before {
		t.Errorf("%d goroutines, where %d were", after, before)
	}
}
