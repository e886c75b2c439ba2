package canon_test

import (
	"math"
	"math/rand/v2"
	"runtime"
	"slices"
	"strconv"
	"strings"
	"testing"
	"unsafe"

	"wringer/api"
	"wringer/canon"
)

// digits writes a number's bits, the highest one first.
func digits(v uint64, width int) string {
	s := strconv.FormatUint(v, 2)
	return strings.Repeat("0", max(0, width-len(s))) + s
}

// coded are the symbols that have a code.
func coded(lengths []int) []uint64 {
	l := []uint64{}
	for symbol, length := range lengths {
		if length > 0 {
			l = append(l, uint64(symbol))
		}
	}
	return l
}

// message is any many symbols that have codes, the same at each run.
func message(lengths []int, many int) []uint64 {
	r := rand.New(rand.NewPCG(uint64(many), 23))
	from, l := coded(lengths), []uint64{}
	for range many {
		if len(from) > 0 {
			l = append(l, from[r.IntN(len(from))])
		}
	}
	return l
}

// 21.2: each symbol alone, all of them, and none, behind any many bits.
func TestWrite(t *testing.T) {
	for _, l := range rights() {
		for ahead := range 10 {
			s := some(ahead, 2)
			isWrite(t, "no symbols", bitsOf(s), l, nil, bitsOf(s), api.OK)
			isWrite(t, "no symbols", bitsOf(s), l, []uint64{}, bitsOf(s), api.OK)
			for _, symbols := range [][]uint64{coded(l), message(l, 3), message(l, 40)} {
				want, _ := written(s, l, symbols)
				isWrite(t, "many", bitsOf(s), l, symbols, bitsOf(want), api.OK)
			}
		}
		known := codes(l)
		for _, symbol := range coded(l) {
			isWrite(t, "one", bitsOf("011"), l, []uint64{symbol}, bitsOf("011"+known[symbol]), api.OK)
		}
	}
}

// 21.2: what is wrong with symbols: the first fault of several is told, and bits are as they were.
func TestWriteWrong(t *testing.T) {
	l, b := []int{2, 1, 0, 2}, bitsOf("10110")
	for _, c := range []struct {
		symbols []uint64
		want    api.Errno
	}{
		{[]uint64{4}, api.ErrRange},
		{[]uint64{5}, api.ErrRange},
		{[]uint64{math.MaxUint64}, api.ErrRange},
		{[]uint64{1 << 32}, api.ErrRange},
		{[]uint64{1<<32 + 1}, api.ErrRange},
		{[]uint64{1 << 63}, api.ErrRange},
		{[]uint64{2}, api.ErrNone},
		{[]uint64{0, 1, 3, 4}, api.ErrRange},
		{[]uint64{0, 1, 3, 2}, api.ErrNone},
		{[]uint64{0, 2, 4}, api.ErrNone},
		{[]uint64{0, 4, 2}, api.ErrRange},
		{[]uint64{4, 0, 1}, api.ErrRange},
		{[]uint64{2, 0, 1}, api.ErrNone},
	} {
		isWrite(t, "wrong symbols", b, l, c.symbols, b, c.want)
		isWrite(t, "wrong symbols behind nothing", api.Bitstr{}, l, c.symbols, api.Bitstr{}, c.want)
	}
	for _, l := range rights() {
		many := uint64(len(l))
		isWrite(t, "one past the last symbol", b, l, []uint64{many}, b, api.ErrRange)
		if many > 0 && l[many-1] > 0 {
			want, _ := written("", l, []uint64{many - 1})
			isWrite(t, "the last symbol", api.Bitstr{}, l, []uint64{many - 1}, bitsOf(want), api.OK)
		}
		for symbol, length := range l {
			if length == 0 {
				isWrite(t, "one that has no code", b, l, []uint64{uint64(symbol)}, b, api.ErrNone)
			}
		}
	}
}

// 21.2: bits of MaxBits, and one code more: that there is no room is told where the first code has none.
func TestWriteFull(t *testing.T) {
	s := some(api.MaxBits, 3)
	for missing := range 6 {
		b, l := bitsOf(s[missing:]), []int{1, 3, 2, 0, 3}
		for _, symbols := range [][]uint64{{}, {0}, {2}, {1}, {4}, {0, 0}, {0, 2}, {1, 0}, {2, 2, 0}, {1, 4, 0}, {0, 1, 9}, {1, 9}, {2, 3}, {9, 1}, {3, 4}, {2, 1, 3}, {1, 1, 9}, {0, 0, 0, 0, 0, 0}} {
			want, e := written(s[missing:], l, symbols)
			isWrite(t, strconv.Itoa(missing)+" are missing", b, l, symbols, bitsOf(want), e)
		}
	}
	for _, l := range [][]int{{1}, {1, 1}, {0, 1}} {
		from := coded(l)
		symbols := slices.Repeat([]uint64{from[len(from)-1]}, api.MaxBits)
		want := bitsOf(strings.Repeat(strconv.Itoa(len(from)-1), api.MaxBits))
		isWrite(t, "as many as can be", api.Bitstr{}, l, symbols, want, api.OK)
		isWrite(t, "one more", want, l, symbols[:1], want, api.ErrFull)
		isWrite(t, "one more than can be", api.Bitstr{}, l, append(symbols, from[0]), api.Bitstr{}, api.ErrFull)
		isWrite(t, "one more, ahead of one that is none", bitsOf("10"), l, append(symbols, 9), bitsOf("10"), api.ErrFull)
		isWrite(t, "one that is none behind as many", api.Bitstr{}, l, append(symbols, 9), api.Bitstr{}, api.ErrRange)
		isWrite(t, "nothing behind MaxBits", want, l, nil, want, api.OK)
		isWrite(t, "one that is none behind MaxBits", want, l, []uint64{2}, want, api.ErrRange)
	}
	b := bitsOf(s)
	isWrite(t, "one that has no code behind MaxBits", b, nil, []uint64{0}, b, api.ErrRange)
	isWrite(t, "one that has no code behind MaxBits", b, []int{0}, []uint64{0}, b, api.ErrNone)
}

// 21.2: at each place of any bits, and past them, by all lengths that are right.
func TestRead(t *testing.T) {
	for _, l := range rights() {
		for seed := range uint64(4) {
			s := some(40, seed)
			for at := -1; at <= len(s)+2; at++ {
				symbol, behind, e := read(s, at, l)
				isRead(t, "any bits", bitsOf(s), at, l, symbol, behind, e)
			}
		}
	}
}

// 21.2: each text of up to twelve bits, from its beginning on.
func TestReadAll(t *testing.T) {
	for _, l := range [][]int{nil, {0, 0}, {1}, {0, 0, 1}, {1, 1}, {2, 1, 0, 2}, {3, 1, 3, 2}, {1, 3, 3, 3, 3}, {4, 4, 4, 4, 2, 2, 2}, {2, 2, 2, 2}, steep(), full(20, 3, 9)} {
		for long := range 13 {
			for v := range uint64(1 << long) {
				s := digits(v, long)[:long]
				symbol, behind, e := read(s, 0, l)
				isRead(t, s, bitsOf(s), 0, l, symbol, behind, e)
			}
		}
	}
}

// 21.2: bits that end in a code, at its end, and just ahead of it.
func TestReadEnds(t *testing.T) {
	for _, l := range rights() {
		for symbol, code := range codes(l) {
			if code == "" {
				continue
			}
			for ahead := range 9 {
				s := some(ahead, 5)
				isRead(t, "a code at the end", bitsOf(s+code), ahead, l, uint64(symbol), ahead+len(code), api.OK)
				isRead(t, "a code, and more", bitsOf(s+code+"1"), ahead, l, uint64(symbol), ahead+len(code), api.OK)
			}
			for long := range len(code) {
				isRead(t, "in a code", bitsOf("101"+code[:long]), 3, l, 0, 0, api.ErrShort)
			}
		}
	}
}

// 21.2: bits that begin with no code, also where they end: by no codes at all, and by one alone.
func TestReadNone(t *testing.T) {
	for _, l := range [][]int{nil, {}, {0}, make([]int, api.MaxAlphabet)} {
		for _, s := range []string{"", "0", "1", "01", some(20, 6), some(api.MaxBits, 7)} {
			for _, at := range []int{0, len(s) / 2, len(s)} {
				isRead(t, "no codes", bitsOf(s), at, l, 0, 0, api.ErrCode)
			}
			for _, at := range []int{-1, len(s) + 1, math.MinInt, math.MaxInt} {
				isRead(t, "no codes, no place", bitsOf(s), at, l, 0, 0, api.ErrRange)
			}
		}
	}
	for at := range 5 {
		l := alone(5, at, 1)
		isRead(t, "one alone", bitsOf("1101"), 2, l, uint64(at), 3, api.OK)
		isRead(t, "one that is not it", bitsOf("1101"), 3, l, 0, 0, api.ErrCode)
		isRead(t, "one that is not it, and more", bitsOf("1101"), 0, l, 0, 0, api.ErrCode)
		isRead(t, "the end", bitsOf("1101"), 4, l, 0, 0, api.ErrShort)
		isRead(t, "nothing", api.Bitstr{}, 0, l, 0, 0, api.ErrShort)
	}
}

// 21.2: places that are none are told ahead of what stands there; N is one.
func TestReadRange(t *testing.T) {
	for _, s := range []string{"", "1", "0011", some(api.MaxBits, 8)} {
		for _, l := range rights() {
			for _, at := range []int{-1, len(s) + 1, math.MinInt, math.MaxInt, -len(s) - 1, 1 << 32} {
				isRead(t, "no place", bitsOf(s), at, l, 0, 0, api.ErrRange)
			}
		}
		isRead(t, "the end", bitsOf(s), len(s), []int{1, 1}, 0, 0, api.ErrShort)
	}
	s := some(api.MaxBits-15, 9) + strings.Repeat("1", 15)
	isRead(t, "the last of MaxBits", bitsOf(s), api.MaxBits-15, steep(), 15, api.MaxBits, api.OK)
	isRead(t, "in the last of MaxBits", bitsOf(s), api.MaxBits-14, steep(), 0, 0, api.ErrShort)
}

// 21.4: what was written is read, symbol by symbol, and nothing more.
func TestThereAndBack(t *testing.T) {
	for _, l := range rights() {
		for _, many := range []int{1, 7, 300} {
			symbols := message(l, many)
			b, e := canon.Write(bitsOf("110"), l, symbols...)
			if e != api.OK {
				t.Fatalf("%v: error %d", l, e)
			}
			at := 3
			for i, symbol := range symbols {
				got, behind, e := canon.Read(b, at, l)
				if e != api.OK || got != symbol || behind != at+l[symbol] {
					t.Fatalf("%v: symbol %d at %d is %d, not %d, error %d, up to %d", l, i, at, got, symbol, e, behind)
				}
				at = behind
			}
			if at != b.N {
				t.Fatalf("%v: %d bits were read of %d", l, at, b.N)
			}
		}
	}
}

// 21.4: one by one, or by one call, the same bits are written.
func TestOneByOne(t *testing.T) {
	l := full(40, 5, 6)
	symbols := message(l, 100)
	whole, e := canon.Write(bitsOf("01"), l, symbols...)
	b := bitsOf("01")
	for _, symbol := range symbols {
		if b, e = canon.Write(b, l, symbol); e != api.OK {
			t.Fatalf("error %d", e)
		}
	}
	if b != whole || e != api.OK {
		t.Errorf("error %d, %d bits, not %d", e, b.N, whole.N)
	}
}

// 21.5: no code is the beginning of another one, be that as long or longer.
func TestApart(t *testing.T) {
	for _, l := range rights() {
		c, e := canon.Codes(l)
		if e != api.OK {
			t.Fatalf("%v: error %d", l, e)
		}
		for one, long := range l {
			for other, longer := range l {
				if one != other && long > 0 && longer >= long && c[other]>>(longer-long) == c[one] {
					t.Fatalf("%v: the code of %d is the beginning of that of %d", l, one, other)
				}
			}
		}
	}
}

// 21.3: no bits that are answered share memory with those that were handed in, with an error or without.
func TestNewBits(t *testing.T) {
	b, l := bitsOf(some(80, 10)), []int{2, 1, 0, 2}
	seen := map[*byte]bool{unsafe.StringData(b.B): true}
	for i, symbols := range [][]uint64{nil, {1}, {0, 1, 3}, {2}, {4}, nil} {
		a, _ := canon.Write(b, l, symbols...)
		if a.N < b.N || seen[unsafe.StringData(a.B)] {
			t.Errorf("answer %d is no new memory", i)
		}
		seen[unsafe.StringData(a.B)] = true
	}
	most := bitsOf(some(api.MaxBits, 11))
	if a, e := canon.Write(most, l, 1); e != api.ErrFull || a != most || unsafe.StringData(a.B) == unsafe.StringData(most.B) {
		t.Errorf("error %d, %d bits", e, a.N)
	}
	if b != bitsOf(some(80, 10)) {
		t.Error("what was handed in has changed")
	}
}

// P1, P3, P4: whatever is handed in, each call answers the same twice, as the words of chapter 21 say, and leaves no goroutine.
func TestWhatever(t *testing.T) {
	before := runtime.NumGoroutine()
	r := rand.New(rand.NewPCG(21, 21))
	for range 4000 {
		l := full(2+r.IntN(30), r.IntN(4), r.Uint64())
		if r.IntN(3) == 0 {
			l[r.IntN(len(l))] += r.IntN(3) - 1
		}
		s, at, symbols := some(r.IntN(50), r.Uint64()), r.IntN(60)-3, []uint64{}
		for range r.IntN(9) {
			symbols = append(symbols, r.Uint64N(uint64(len(l)+1)))
		}
		b, e := canon.Write(bitsOf(s), l, symbols...)
		c, f := canon.Write(bitsOf(s), l, symbols...)
		if b != c || e != f {
			t.Fatalf("Write of %v, by %v: error %d, and %d", symbols, l, e, f)
		}
		one, behind, g := canon.Read(bitsOf(s), at, l)
		other, end, h := canon.Read(bitsOf(s), at, l)
		if one != other || behind != end || g != h {
			t.Fatalf("Read at %d, by %v: error %d, and %d", at, l, g, h)
		}
		if !isRight(l) {
			if e != api.ErrCode || g != api.ErrCode || canon.Check(l) != api.ErrCode {
				t.Fatalf("%v: errors %d and %d", l, e, g)
			}
			continue
		}
		want, wantE := written(s, l, symbols)
		symbol, wantAt, wantG := read(s, at, l)
		if b != bitsOf(want) || e != wantE || one != symbol || behind != wantAt || g != wantG {
			t.Fatalf("%v: Write of %v: error %d, not %d; Read at %d of %q: error %d, not %d", l, symbols, e, wantE, at, s, g, wantG)
		}
	}
	if after := runtime.NumGoroutine(); after > before {
		t.Errorf("%d goroutines, where %d were", after, before)
	}
}
