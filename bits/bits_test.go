package bits_test

import (
	"math"
	"math/rand/v2"
	"runtime"
	"strconv"
	"strings"
	"testing"
	"unsafe"

	"wringer/api"
	"wringer/bits"
)

// bitsOf packs a text of 0 and 1, one bit at a time: it is told by the words of package api alone.
func bitsOf(s string) api.Bitstr {
	bytes := make([]byte, (len(s)+7)/8)
	for i := range len(s) {
		if s[i] == '1' {
			bytes[i/8] += 128 >> (i % 8)
		}
	}
	return api.Bitstr{B: string(bytes), N: len(s)}
}

// digits writes a number's lowest bits, the first one the highest.
func digits(v uint64, width int) string {
	s := ""
	for range width {
		s = strconv.Itoa(int(v%2)) + s
		v /= 2
	}
	return s
}

// some makes a text of 0 and 1, the same at each run.
func some(n int, seed uint64) string {
	r := rand.New(rand.NewPCG(seed, 1))
	s := make([]byte, n)
	for i := range s {
		s[i] = '0' + byte(r.IntN(2))
	}
	return string(s)
}

// full is MaxBits bits, of which only the first and the last are 1.
func full() api.Bitstr {
	return bitsOf("1" + strings.Repeat("0", api.MaxBits-2) + "1")
}

// wrongs are bits made by hand that are not right.
func wrongs() []api.Bitstr {
	return []api.Bitstr{
		{N: 1},
		{N: -1},
		{B: "\x00", N: -1},
		{B: "\x00", N: 0},
		{B: "\x80\x00", N: 8},
		{B: "\x80", N: 9},
		{B: "\x01", N: 7},
		{B: "\x40", N: 1},
		{B: "\xff\x01", N: 15},
		{B: strings.Repeat("\x00", api.MaxBits/8+1), N: api.MaxBits + 1},
		{B: strings.Repeat("\x00", api.MaxBits/8+1), N: api.MaxBits + 8},
		{B: strings.Repeat("\x00", api.MaxBits/8-1), N: api.MaxBits},
		{N: math.MaxInt},
		{N: math.MinInt},
	}
}

// is holds bits and an error against what they should be.
func is(t *testing.T, what string, got api.Bitstr, e api.Errno, want api.Bitstr, wantE api.Errno) {
	t.Helper()
	if got != want || e != wantE {
		t.Fatalf("%s: %d bits, error %d; not %d bits, error %d, as it should be", what, got.N, e, want.N, wantE)
	}
}

// isNumber holds a number and an error against what they should be.
func isNumber[T comparable](t *testing.T, what string, got T, e api.Errno, want T, wantE api.Errno) {
	t.Helper()
	if got != want || e != wantE {
		t.Fatalf("%s: %v, error %d; not %v, error %d, as it should be", what, got, e, want, wantE)
	}
}

func TestExample(t *testing.T) {
	b, e := bits.Put(api.Bitstr{}, 5, 3)
	is(t, "5 in three bits", b, e, api.Bitstr{B: "\xa0", N: 3}, api.OK)
	b, e = bits.Put(b, 1, 2)
	is(t, "and 1 in two", b, e, api.Bitstr{B: "\xa8", N: 5}, api.OK)
}

// 1.1
func TestCheck(t *testing.T) {
	rights := []api.Bitstr{
		{}, {B: "\x00", N: 1}, {B: "\x80", N: 1}, {B: "\xfe", N: 7}, {B: "\xff", N: 8}, {B: "\xff\x80", N: 9},
		full(), bitsOf(strings.Repeat("1", api.MaxBits-1)),
	}
	for i, b := range rights {
		if e := bits.Check(b); e != api.OK {
			t.Errorf("right bits %d: error %d", i, e)
		}
	}
	for i, b := range wrongs() {
		if e := bits.Check(b); e != api.ErrForm {
			t.Errorf("wrong bits %d: error %d", i, e)
		}
	}
	for i := range 8 {
		for n := 1; n <= 8; n++ {
			want := api.OK
			if i >= n {
				want = api.ErrForm
			}
			b := api.Bitstr{B: string([]byte{128 >> i}), N: n}
			if e := bits.Check(b); e != want {
				t.Errorf("of %d bits the one at %d is 1: error %d", n, i, e)
			}
		}
	}
}

// 1.1: bits that are not right are answered ahead of all else, and all else is zero.
func TestFormFirst(t *testing.T) {
	for _, b := range wrongs() {
		for _, n := range []int{-1, 0, 1, 64, 65, math.MaxInt} {
			c, e := bits.Put(b, 2, n)
			is(t, "Put", c, e, api.Bitstr{}, api.ErrForm)
			c, e = bits.Cut(b, n, 1)
			is(t, "Cut", c, e, api.Bitstr{}, api.ErrForm)
			c, e = bits.Turn(b, n)
			is(t, "Turn", c, e, api.Bitstr{}, api.ErrForm)
			v, e := bits.Get(b, n, n)
			isNumber(t, "Get", v, e, 0, api.ErrForm)
		}
		c, e := bits.Cat(b)
		is(t, "Cat alone", c, e, api.Bitstr{}, api.ErrForm)
		c, e = bits.Cat(b, full(), b)
		is(t, "Cat", c, e, api.Bitstr{}, api.ErrForm)
		n, e := bits.Ones(b)
		isNumber(t, "Ones", n, e, 0, api.ErrForm)
	}
}

// 1.1: from every place on, in every width, its lowest and its highest number, and some between.
func TestPut(t *testing.T) {
	for ahead := range 18 {
		s := some(ahead, 2)
		for width := 0; width <= 64; width++ {
			highest := uint64(math.MaxUint64) >> (64 - width)
			for _, v := range []uint64{0, highest, highest &^ 1, highest / 2, highest & 0x5555555555555555, highest & 0x123456789abcdef0} {
				b, e := bits.Put(bitsOf(s), v, width)
				is(t, "Put of width "+strconv.Itoa(width), b, e, bitsOf(s+digits(v, width)), api.OK)
			}
		}
	}
}

// 1.1
func TestPutWrong(t *testing.T) {
	b := bitsOf("10110")
	for _, width := range []int{-1, 65, 128, math.MinInt, math.MaxInt} {
		c, e := bits.Put(b, 0, width)
		is(t, "a width of "+strconv.Itoa(width), c, e, b, api.ErrRange)
	}
	for width := range 64 {
		c, e := bits.Put(b, 1<<width, width)
		is(t, "a number that is too high", c, e, b, api.ErrRange)
		c, e = bits.Put(b, math.MaxUint64, width)
		is(t, "the highest number", c, e, b, api.ErrRange)
	}
	c, e := bits.Put(full(), 0, 1)
	is(t, "one past MaxBits", c, e, full(), api.ErrFull)
	c, e = bits.Put(full(), 0, 0)
	is(t, "nothing behind MaxBits", c, e, full(), api.OK)
	c, e = bits.Put(full(), 2, 1)
	is(t, "no room, and a number too high", c, e, full(), api.ErrRange)
	s := strings.Repeat("10", api.MaxBits/2-32)
	c, e = bits.Put(bitsOf(s), math.MaxUint64, 64)
	is(t, "up to MaxBits", c, e, bitsOf(s+strings.Repeat("1", 64)), api.OK)
	c, e = bits.Put(bitsOf(s+"1"), math.MaxUint64, 64)
	is(t, "one past MaxBits by 64", c, e, bitsOf(s+"1"), api.ErrFull)
}

// 1.1: from every place on, every width.
func TestGet(t *testing.T) {
	s := some(90, 3)
	for at := 0; at <= len(s); at++ {
		for width := 0; width <= 64; width++ {
			want, wantE := uint64(0), api.ErrShort
			if at+width <= len(s) {
				wantE = api.OK
				want, _ = strconv.ParseUint("0"+s[at:at+width], 2, 64)
			}
			v, e := bits.Get(bitsOf(s), at, width)
			isNumber(t, "Get from "+strconv.Itoa(at)+" on", v, e, want, wantE)
		}
	}
}

// 1.1
func TestGetWrong(t *testing.T) {
	b := bitsOf("11111")
	for _, n := range []int{-1, 65, math.MinInt, math.MaxInt} {
		v, e := bits.Get(b, 0, n)
		isNumber(t, "the width", v, e, 0, api.ErrRange)
		v, e = bits.Get(b, n, 0)
		isNumber(t, "the place", v, e, 0, api.ErrRange)
		v, e = bits.Get(b, n, 64)
		isNumber(t, "the place, and too few", v, e, 0, api.ErrRange)
	}
	v, e := bits.Get(b, 6, 0)
	isNumber(t, "a place one behind the last", v, e, 0, api.ErrRange)
	v, e = bits.Get(b, 5, 0)
	isNumber(t, "nothing at the end", v, e, 0, api.OK)
	v, e = bits.Get(b, 5, 1)
	isNumber(t, "one at the end", v, e, 0, api.ErrShort)
	v, e = bits.Get(api.Bitstr{}, 0, 0)
	isNumber(t, "nothing of nothing", v, e, 0, api.OK)
	v, e = bits.Get(full(), api.MaxBits-64, 64)
	isNumber(t, "the last ones of MaxBits", v, e, 1, api.OK)
}

// 1.2
func TestCat(t *testing.T) {
	b, e := bits.Cat(api.Bitstr{})
	is(t, "nothing", b, e, api.Bitstr{}, api.OK)
	b, e = bits.Cat(api.Bitstr{}, api.Bitstr{}, api.Bitstr{})
	is(t, "nothing thrice", b, e, api.Bitstr{}, api.OK)
	for first := range 20 {
		for n := range 140 {
			x, y, z := some(first, 4), some(n, 5), some(first+n, 6)
			b, e = bits.Cat(bitsOf(x))
			is(t, "one", b, e, bitsOf(x), api.OK)
			b, e = bits.Cat(bitsOf(x), bitsOf(y))
			is(t, "two", b, e, bitsOf(x+y), api.OK)
			b, e = bits.Cat(bitsOf(x), bitsOf(y), api.Bitstr{}, bitsOf(z))
			is(t, "four", b, e, bitsOf(x+y+z), api.OK)
		}
	}
}

// 1.2: one by one: what is wrong first is told, and bits are as they were.
func TestCatWrong(t *testing.T) {
	b, one := bitsOf("101"), bitsOf("1")
	for _, w := range wrongs() {
		c, e := bits.Cat(b, w)
		is(t, "one that is not right", c, e, b, api.ErrForm)
		c, e = bits.Cat(b, one, w, full())
		is(t, "one that is not right, ahead of one too many", c, e, b, api.ErrForm)
		c, e = bits.Cat(b, one, full(), w)
		is(t, "one too many, ahead of one that is not right", c, e, b, api.ErrFull)
	}
	c, e := bits.Cat(full(), one)
	is(t, "one past MaxBits", c, e, full(), api.ErrFull)
	c, e = bits.Cat(one, full())
	is(t, "MaxBits behind one", c, e, one, api.ErrFull)
	c, e = bits.Cat(full(), api.Bitstr{})
	is(t, "MaxBits and nothing", c, e, full(), api.OK)
	s := some(api.MaxBits/2-3, 7)
	c, e = bits.Cat(b, bitsOf(s), bitsOf(s), b)
	is(t, "up to MaxBits", c, e, bitsOf("101"+s+s+"101"), api.OK)
	c, e = bits.Cat(b, bitsOf(s), bitsOf(s), bitsOf("1011"))
	is(t, "one past MaxBits, of four", c, e, b, api.ErrFull)
}

// 1.2
func TestCut(t *testing.T) {
	s := some(90, 8)
	for from := 0; from <= len(s)+1; from++ {
		for n := 0; n <= len(s)+1; n++ {
			want, wantE := api.Bitstr{}, api.OK
			switch {
			case from > len(s):
				wantE = api.ErrRange
			case from+n > len(s):
				wantE = api.ErrShort
			default:
				want = bitsOf(s[from : from+n])
			}
			b, e := bits.Cut(bitsOf(s), from, n)
			is(t, "Cut from "+strconv.Itoa(from)+" on", b, e, want, wantE)
		}
	}
	long := some(api.MaxBits, 9)
	b, e := bits.Cut(bitsOf(long), 0, api.MaxBits)
	is(t, "all", b, e, bitsOf(long), api.OK)
	b, e = bits.Cut(bitsOf(long), 5, api.MaxBits-5)
	is(t, "all but five", b, e, bitsOf(long[5:]), api.OK)
}

// 1.2
func TestCutWrong(t *testing.T) {
	b := bitsOf("10111")
	for _, l := range [][2]int{{-1, 0}, {0, -1}, {-1, 9}, {9, -1}, {6, 0}, {6, 1}, {5, -1}, {math.MinInt, 1}, {1, math.MinInt}, {math.MaxInt, math.MaxInt}} {
		c, e := bits.Cut(b, l[0], l[1])
		is(t, "out of range", c, e, api.Bitstr{}, api.ErrRange)
	}
	for _, l := range [][2]int{{0, 6}, {5, 1}, {4, 2}, {0, math.MaxInt}, {5, math.MaxInt}} {
		c, e := bits.Cut(b, l[0], l[1])
		is(t, "not as many", c, e, api.Bitstr{}, api.ErrShort)
	}
}

// 1.2
func TestTurn(t *testing.T) {
	s := some(40, 10)
	for i := range len(s) {
		other := string('0' + '1' - s[i])
		b, e := bits.Turn(bitsOf(s), i)
		is(t, "Turn", b, e, bitsOf(s[:i]+other+s[i+1:]), api.OK)
		b, e = bits.Turn(b, i)
		is(t, "Turn again", b, e, bitsOf(s), api.OK)
	}
	for _, i := range []int{-1, 40, 41, math.MinInt, math.MaxInt} {
		b, e := bits.Turn(bitsOf(s), i)
		is(t, "no such bit", b, e, bitsOf(s), api.ErrRange)
	}
	b, e := bits.Turn(api.Bitstr{}, 0)
	is(t, "of nothing", b, e, api.Bitstr{}, api.ErrRange)
	b, e = bits.Turn(full(), api.MaxBits-1)
	is(t, "the last of MaxBits", b, e, bitsOf("1"+strings.Repeat("0", api.MaxBits-1)), api.OK)
}

// 1.2
func TestOnes(t *testing.T) {
	for n := range 100 {
		s := some(n, uint64(n))
		v, e := bits.Ones(bitsOf(s))
		isNumber(t, "Ones", v, e, strings.Count(s, "1"), api.OK)
	}
	v, e := bits.Ones(bitsOf(strings.Repeat("1", api.MaxBits)))
	isNumber(t, "MaxBits, all 1", v, e, api.MaxBits, api.OK)
}

// 1.3: no answer shares memory with what is handed in, refused or not, and what is handed in stays.
func TestNewMemory(t *testing.T) {
	s, s2 := some(80, 11), some(48, 12)
	b, c := bitsOf(s), bitsOf(s2)
	more := []api.Bitstr{c, {}, b}
	var answers []api.Bitstr
	for _, width := range []int{0, 7, 65} {
		a, _ := bits.Put(b, 0, width)
		answers = append(answers, a)
	}
	for _, l := range [][]api.Bitstr{nil, more, {{N: 1}}, {full()}} {
		a, _ := bits.Cat(b, l...)
		answers = append(answers, a)
	}
	for _, i := range []int{3, 80} {
		a, _ := bits.Turn(b, i)
		answers = append(answers, a)
	}
	for _, n := range []int{80, 48} {
		a, _ := bits.Cut(b, 0, n)
		answers = append(answers, a)
	}
	a, _ := bits.Cat(api.Bitstr{}, b)
	answers = append(answers, a)
	seen := map[*byte]bool{unsafe.StringData(b.B): true, unsafe.StringData(c.B): true}
	for i, a := range answers {
		if seen[unsafe.StringData(a.B)] {
			t.Errorf("answer %d is no new memory", i)
		}
		seen[unsafe.StringData(a.B)] = true
	}
	if b != bitsOf(s) || c != bitsOf(s2) || len(more) != 3 || more[0] != c || more[1] != (api.Bitstr{}) || more[2] != b {
		t.Error("what was handed in has changed")
	}
}

// 1.4
func TestThereAndBack(t *testing.T) {
	r := rand.New(rand.NewPCG(13, 1))
	b := api.Bitstr{}
	var at, widths []int
	var values []uint64
	for range 300 {
		width := r.IntN(65)
		v := r.Uint64() >> (64 - width)
		at, widths, values = append(at, b.N), append(widths, width), append(values, v)
		var e api.Errno
		if b, e = bits.Put(b, v, width); e != api.OK || bits.Check(b) != api.OK {
			t.Fatalf("Put: error %d, Check: error %d", e, bits.Check(b))
		}
	}
	for i, v := range values {
		got, e := bits.Get(b, at[i], widths[i])
		isNumber(t, "what was put", got, e, v, api.OK)
	}
}

// 1.5
func TestParts(t *testing.T) {
	for _, n := range []int{0, 1, 7, 8, 9, 64, 65, 200} {
		b := bitsOf(some(n, 14))
		for i := 0; i <= n; i++ {
			for j := i; j <= n; j++ {
				x, e1 := bits.Cut(b, 0, i)
				y, e2 := bits.Cut(b, i, j-i)
				z, e3 := bits.Cut(b, j, n-j)
				if e1 != api.OK || e2 != api.OK || e3 != api.OK {
					t.Fatalf("Cut: errors %d, %d, %d", e1, e2, e3)
				}
				all, e := bits.Cat(x, y, z)
				is(t, "put together again", all, e, b, api.OK)
			}
		}
	}
}

// P1, P3, P4: whatever is handed in, each call answers the same twice, and leaves no goroutine.
func TestWhatever(t *testing.T) {
	before := runtime.NumGoroutine()
	numbers := []int{math.MinInt, math.MinInt + 1, -65, -64, -1, 0, 1, 7, 8, 63, 64, 65, api.MaxBits, api.MaxBits + 1, math.MaxInt - 1, math.MaxInt}
	for _, b := range append(wrongs(), api.Bitstr{}, bitsOf("1"), bitsOf(some(70, 15))) {
		for _, i := range numbers {
			for _, j := range numbers {
				p1, e1 := bits.Put(b, uint64(i), j)
				p2, e2 := bits.Put(b, uint64(i), j)
				is(t, "Put again", p2, e2, p1, e1)
				g1, e1 := bits.Get(b, i, j)
				g2, e2 := bits.Get(b, i, j)
				isNumber(t, "Get again", g2, e2, g1, e1)
				c1, e1 := bits.Cut(b, i, j)
				c2, e2 := bits.Cut(b, i, j)
				is(t, "Cut again", c2, e2, c1, e1)
			}
			t1, e1 := bits.Turn(b, i)
			t2, e2 := bits.Turn(b, i)
			is(t, "Turn again", t2, e2, t1, e1)
		}
	}
	if after := runtime.NumGoroutine(); after > before {
		t.Errorf("%d goroutines, where %d were", after, before)
	}
}
