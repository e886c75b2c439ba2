package canon_test

import (
	"math"
	"slices"
	"testing"

	"wringer/api"
	"wringer/canon"
)

// wrongs are lengths that are not right, of many kinds.
func wrongs() map[string][]int {
	return map[string][]int{
		"one alone that is 2":            {2},
		"one alone that is 15":           {0, 15, 0},
		"one alone of as many as may be": alone(api.MaxAlphabet, 77, 3),
		"two that leave half":            {2, 2},
		"two that leave a quarter":       {1, 2},
		"a quarter, behind one of 0":     {0, 2, 0, 1},
		"three that leave a quarter":     {2, 2, 2},
		"room for the longest one":       steep()[:api.MaxLength],
		"room, of as many as may be":     slices.Repeat([]int{10}, api.MaxAlphabet),
		"three of 1":                     {1, 1, 1},
		"one too many":                   {1, 1, 15},
		"one too many, of 2":             {2, 2, 2, 2, 2},
		"one too many, of the longest":   append(steep(), api.MaxLength),
		"far too many":                   slices.Repeat([]int{1}, api.MaxAlphabet),
		"one of MaxLength and one more":  {1, 16},
		"and no room but for it":         {1, 1, 16},
		"alone, and too long":            {16},
		"too long by far":                {1, 1, math.MaxInt},
		"too long as 32 bits are none":   {1, 1, 1 << 32},
		"below 0":                        {-1},
		"below 0 behind right ones":      {1, 1, -1},
		"below 0 ahead of 1":             {-1, 1},
		"below 0 ahead of right ones":    {0, -15, 1, 1},
		"below 0 by far":                 {1, math.MinInt, 1},
		"one more than MaxAlphabet":      make([]int, api.MaxAlphabet+1),
		"one more, one alone":            alone(api.MaxAlphabet+1, 3, 1),
		"one more, no room":              append(slices.Repeat([]int{9}, api.MaxAlphabet), 0),
		"many more":                      make([]int, 100000),
	}
}

// wrongBits are bits made by hand that are not right.
func wrongBits() []api.Bitstr {
	return []api.Bitstr{{N: 1}, {N: -1}, {B: "\x00", N: 0}, {B: "\x01", N: 7}, {B: "\x40", N: 1}, {N: math.MaxInt}, {N: math.MinInt}, {B: string(make([]byte, api.MaxBits/8+1)), N: api.MaxBits + 1}}
}

// isWrite holds what Write tells against what it should.
func isWrite(t *testing.T, what string, b api.Bitstr, lengths []int, symbols []uint64, want api.Bitstr, wantE api.Errno) {
	t.Helper()
	if got, e := canon.Write(b, lengths, symbols...); got != want || e != wantE {
		t.Fatalf("Write, %s: %d bits, error %d; not %d bits, error %d, as it should be", what, got.N, e, want.N, wantE)
	}
}

// isRead holds what Read tells against what it should.
func isRead(t *testing.T, what string, b api.Bitstr, at int, lengths []int, want uint64, wantAt int, wantE api.Errno) {
	t.Helper()
	if symbol, behind, e := canon.Read(b, at, lengths); symbol != want || behind != wantAt || e != wantE {
		t.Fatalf("Read at %d, %s: %d, at %d, error %d; not %d, at %d, error %d, as it should be", at, what, symbol, behind, e, want, wantAt, wantE)
	}
}

// isFind holds what Find tells against what it should.
func isFind(t *testing.T, lengths []int, code uint64, length, want int, wantE api.Errno) {
	t.Helper()
	if symbol, e := canon.Find(lengths, code, length); symbol != want || e != wantE {
		t.Fatalf("Find of %d, of %d bits, of %v: %d, error %d; not %d, error %d, as it should be", code, length, lengths, symbol, e, want, wantE)
	}
}

func TestExample(t *testing.T) {
	l := []int{2, 1, 0, 2}
	if c, e := canon.Codes(l); e != api.OK || !slices.Equal(c, []uint64{0b10, 0b0, 0, 0b11}) {
		t.Errorf("error %d, %v", e, c)
	}
	isWrite(t, "each", api.Bitstr{}, l, []uint64{0, 1, 3}, bitsOf("10011"), api.OK)
}

// 21.1
func TestCheck(t *testing.T) {
	for i, l := range rights() {
		if e := canon.Check(l); e != api.OK || !isRight(l) {
			t.Errorf("right lengths %d, %v: error %d", i, l, e)
		}
	}
	for what, l := range wrongs() {
		if e := canon.Check(l); e != api.ErrCode || isRight(l) {
			t.Errorf("%s: error %d", what, e)
		}
	}
}

// 21.1: of up to five lengths, from -1 to 4 and some others, each way there is.
func TestCheckAll(t *testing.T) {
	some := []int{-1, 0, 1, 2, 3, 4, 15, 16}
	l, right := []int{}, 0
	var each func()
	each = func() {
		want := api.ErrCode
		if isRight(l) {
			want = api.OK
			right++
		}
		if e := canon.Check(l); e != want {
			t.Fatalf("%v: error %d, not %d", l, e, want)
		}
		if len(l) == 5 {
			return
		}
		for _, length := range some {
			l = append(l, length)
			each()
			l = l[:len(l)-1]
		}
	}
	each()
	if right < 150 {
		t.Errorf("only %d were right", right)
	}
}

// 21.1, P2: lengths that are not right are told ahead of all else, but for bits that are not; all else is zero.
func TestCodeFirst(t *testing.T) {
	for what, l := range wrongs() {
		if c, e := canon.Codes(l); e != api.ErrCode || len(c) != 0 {
			t.Errorf("Codes, %s: error %d, %v", what, e, c)
		}
		for _, n := range []int{-1, 0, 1, 2, 16, math.MaxInt} {
			isFind(t, l, 0, n, 0, api.ErrCode)
			isFind(t, l, 1, n, 0, api.ErrCode)
			isRead(t, what, bitsOf("0"), n, l, 0, 0, api.ErrCode)
			isRead(t, what, api.Bitstr{}, n, l, 0, 0, api.ErrCode)
		}
		for _, symbols := range [][]uint64{nil, {0}, {0, 1}, {math.MaxUint64}} {
			isWrite(t, what, api.Bitstr{}, l, symbols, api.Bitstr{}, api.ErrCode)
			isWrite(t, what, bitsOf("101"), l, symbols, api.Bitstr{}, api.ErrCode)
			isWrite(t, what, bitsOf(some(api.MaxBits, 1)), l, symbols, api.Bitstr{}, api.ErrCode)
		}
	}
}

// 21.1, P2: bits that are not right are told ahead of all else; all else is zero.
func TestFormFirst(t *testing.T) {
	lists := append([][]int{{1, 1}, {1}, nil}, []int{2}, []int{-1}, make([]int, api.MaxAlphabet+1))
	for _, b := range wrongBits() {
		for _, l := range lists {
			isWrite(t, "no symbols", b, l, nil, api.Bitstr{}, api.ErrForm)
			isWrite(t, "one", b, l, []uint64{0}, api.Bitstr{}, api.ErrForm)
			isWrite(t, "one that is none", b, l, []uint64{9}, api.Bitstr{}, api.ErrForm)
			for _, at := range []int{-1, 0, 1, math.MaxInt, math.MinInt} {
				isRead(t, "bits that are not right", b, at, l, 0, 0, api.ErrForm)
			}
		}
	}
}

// 21.1: the codes by the words of chapter 21, and as they are known otherwise.
func TestCodes(t *testing.T) {
	for _, l := range rights() {
		c, e := canon.Codes(l)
		if e != api.OK || len(c) != len(l) {
			t.Fatalf("%v: error %d, %d codes", l, e, len(c))
		}
		for symbol, code := range codes(l) {
			if c[symbol] != number(code) {
				t.Fatalf("%v: the code of %d is %d, not %q", l, symbol, c[symbol], code)
			}
		}
	}
	for _, c := range []struct {
		lengths []int
		want    []uint64
	}{
		{nil, nil},
		{[]int{0, 0}, []uint64{0, 0}},
		{[]int{0, 1, 0}, []uint64{0, 0, 0}},
		{[]int{1, 1}, []uint64{0, 1}},
		{[]int{2, 2, 2, 2}, []uint64{0, 1, 2, 3}},
		{[]int{2, 2, 0, 1}, []uint64{2, 3, 0, 0}},
		{[]int{3, 1, 3, 2}, []uint64{6, 0, 7, 2}},
		{[]int{1, 3, 3, 0, 3, 3}, []uint64{0, 4, 5, 0, 6, 7}},
		{[]int{4, 4, 2, 3, 2, 2}, []uint64{14, 15, 0, 6, 1, 2}},
	} {
		if got, e := canon.Codes(c.lengths); e != api.OK || !slices.Equal(got, c.want) {
			t.Errorf("%v: error %d, %v, not %v", c.lengths, e, got, c.want)
		}
	}
	c, e := canon.Codes(steep())
	if e != api.OK || c[0] != 0 || c[1] != 2 || c[14] != 1<<15-2 || c[15] != 1<<15-1 {
		t.Errorf("error %d, %v", e, c)
	}
}

// 21.1: of each code that there is, and of all others, be they of another length, or as large as can be.
func TestFind(t *testing.T) {
	for _, l := range rights() {
		known := codes(l)
		for symbol, code := range known {
			if code == "" {
				continue
			}
			isFind(t, l, number(code), len(code), symbol, api.OK)
			isFind(t, l, number(code)|1<<len(code), len(code), 0, api.ErrNone)
			isFind(t, l, number(code)|1<<32, len(code), 0, api.ErrNone)
			isFind(t, l, number(code)|1<<63, len(code), 0, api.ErrNone)
		}
		for _, length := range []int{-1, 0, 16, 17, 63, 64, 1 << 32, math.MinInt, math.MaxInt} {
			isFind(t, l, 0, length, 0, api.ErrNone)
			isFind(t, l, 1, length, 0, api.ErrNone)
			isFind(t, l, math.MaxUint64, length, 0, api.ErrNone)
		}
		for length := 1; length <= api.MaxLength; length++ {
			isFind(t, l, math.MaxUint64, length, 0, api.ErrNone)
			isFind(t, l, 1<<length, length, 0, api.ErrNone)
		}
	}
}

// 21.1: each number of up to nine bits, and one more.
func TestFindAll(t *testing.T) {
	for _, l := range rights() {
		if len(l) > 70 && len(l) != api.MaxAlphabet {
			continue
		}
		known := map[string]int{}
		for symbol, code := range codes(l) {
			known[code] = symbol + 1
		}
		for length := 1; length <= 9; length++ {
			for code := range uint64(1<<length + 2) {
				want, wantE := 0, api.ErrNone
				if at := known[digits(code, length)]; code < 1<<length && at > 0 {
					want, wantE = at-1, api.OK
				}
				isFind(t, l, code, length, want, wantE)
			}
		}
	}
}

// 21.3: what is answered is its own, and what is handed in stays as it is.
func TestNewMemory(t *testing.T) {
	l := []int{2, 1, 0, 2, 77, 78}[:4]
	kept := slices.Clone(l)
	one, _ := canon.Codes(l)
	other, _ := canon.Codes(l)
	clear(one)
	if !slices.Equal(other, []uint64{2, 0, 0, 3}) {
		t.Errorf("Codes: %v", other)
	}
	symbols := []uint64{3, 1, 0, 5, 6}[:3]
	b, _ := canon.Write(bitsOf("1"), l, symbols...)
	canon.Read(b, 1, l)
	canon.Find(l, 2, 2)
	canon.Check(l)
	if !slices.Equal(l, kept) || !slices.Equal(l[:6], append(kept, 77, 78)) || !slices.Equal(symbols[:5], []uint64{3, 1, 0, 5, 6}) {
		t.Errorf("what was handed in has changed: %v, %v", l[:6], symbols[:5])
	}
	clear(symbols)
	clear(l)
	if b != bitsOf("111010") {
		t.Errorf("what was written has changed: %v", b)
	}
}
