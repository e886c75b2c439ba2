package num_test

import (
	"encoding/binary"
	"math"
	"math/rand/v2"
	"runtime"
	"slices"
	"strings"
	"testing"
	"unsafe"

	"wringer/api"
	"wringer/num"
)

// edges are numbers at which something changes: the lowest, the highest, and those about a bit more, or a byte more.
func edges() []uint64 {
	l := []uint64{0, api.MaxNum - 1, api.MaxNum - 2}
	for i := range 40 {
		l = append(l, 1<<i, 1<<i+1, 1<<i-1)
	}
	return l
}

// pasts are those that are no numbers.
func pasts() []uint64 {
	return []uint64{api.MaxNum, api.MaxNum + 1, api.MaxNum << 1, 1 << 63, math.MaxUint64 - 1, math.MaxUint64}
}

// some makes numbers of all lengths, the same at each run.
func some(n int, seed uint64) []uint64 {
	r := rand.New(rand.NewPCG(seed, 3))
	l := make([]uint64, n)
	for i := range l {
		l[i] = r.Uint64() >> (24 + r.IntN(40))
	}
	return l
}

// five is a number's five bytes: the last ones of eight.
func five(n uint64) string {
	return string(binary.BigEndian.AppendUint64(nil, n)[3:])
}

// fives is the five bytes of all, one behind the other.
func fives(l []uint64) string {
	s := ""
	for _, n := range l {
		s += five(n)
	}
	return s
}

// short is a number's short bytes.
func short(n uint64) string {
	return string(binary.AppendUvarint(nil, n))
}

// isText holds a text and an error against what they should be.
func isText(t *testing.T, what, got string, e api.Errno, want string, wantE api.Errno) {
	t.Helper()
	if got != want || e != wantE {
		t.Fatalf("%s: % x, error %d; not % x, error %d, as it should be", what, got, e, want, wantE)
	}
}

// isNumber holds a number and an error against what they should be.
func isNumber(t *testing.T, what string, got uint64, e api.Errno, want uint64, wantE api.Errno) {
	t.Helper()
	if got != want || e != wantE {
		t.Fatalf("%s: %d, error %d; not %d, error %d, as it should be", what, got, e, want, wantE)
	}
}

// isRecords holds records and an error against what they should be.
func isRecords(t *testing.T, what string, got [][]uint64, e api.Errno, want [][]uint64, wantE api.Errno) {
	t.Helper()
	if !slices.EqualFunc(got, want, slices.Equal[[]uint64]) || e != wantE {
		t.Fatalf("%s: %d, error %d; not %d, error %d, as it should be", what, got, e, want, wantE)
	}
}

func TestExample(t *testing.T) {
	s, e := num.Put(300)
	isText(t, "300", s, e, "\x00\x00\x00\x01\x2c", api.OK)
	s, e = num.Short(300)
	isText(t, "300, short", s, e, "\xac\x02", api.OK)
}

// 3.1
func TestPut(t *testing.T) {
	for _, n := range append(edges(), some(1000, 1)...) {
		s, e := num.Put(n)
		isText(t, "Put", s, e, five(n), api.OK)
	}
	for _, n := range pasts() {
		s, e := num.Put(n)
		isText(t, "Put of no number", s, e, "", api.ErrRange)
	}
	s, e := num.Put(0)
	isText(t, "the lowest", s, e, "\x00\x00\x00\x00\x00", api.OK)
	s, e = num.Put(api.MaxNum - 1)
	isText(t, "the highest", s, e, "\xff\xff\xff\xff\xff", api.OK)
	s, e = num.Put(0x0102030405)
	isText(t, "the highest byte first", s, e, "\x01\x02\x03\x04\x05", api.OK)
}

// 3.1
func TestGet(t *testing.T) {
	for _, n := range append(edges(), some(1000, 2)...) {
		got, e := num.Get(five(n))
		isNumber(t, "Get", got, e, n, api.OK)
	}
	for _, c := range []string{"\x00", "\x01", "\x80", "\xff"} {
		for _, n := range []int{0, 1, 2, 3, 4, 6, 7, 8, 9, 10, 11, 100} {
			got, e := num.Get(strings.Repeat(c, n))
			isNumber(t, "Get of not five bytes", got, e, 0, api.ErrShort)
		}
	}
}

// 3.1
func TestShort(t *testing.T) {
	for _, n := range append(edges(), some(1000, 3)...) {
		s, e := num.Short(n)
		isText(t, "Short", s, e, short(n), api.OK)
	}
	for _, n := range pasts() {
		s, e := num.Short(n)
		isText(t, "Short of no number", s, e, "", api.ErrRange)
	}
	for n, want := range map[uint64]string{
		0: "\x00", 1: "\x01", 127: "\x7f", 128: "\x80\x01", 16383: "\xff\x7f", 16384: "\x80\x80\x01",
		1<<35 - 1: "\xff\xff\xff\xff\x7f", 1 << 35: "\x80\x80\x80\x80\x80\x01", api.MaxNum - 1: "\xff\xff\xff\xff\xff\x1f",
	} {
		s, e := num.Short(n)
		isText(t, "Short", s, e, want, api.OK)
	}
}

// wordsOfRead are what the chapter says of Read, word by word.
func wordsOfRead(s string) (uint64, string, api.Errno) {
	isHigh := func(c rune) bool { return c >= 128 }
	runes := make([]rune, len(s))
	for i := range len(s) {
		runes[i] = rune(s[i])
	}
	if len(s) >= 6 && !slices.ContainsFunc(runes[:6], func(c rune) bool { return !isHigh(c) }) {
		return 0, "", api.ErrCode
	}
	last := slices.IndexFunc(runes, func(c rune) bool { return !isHigh(c) })
	if last < 0 {
		return 0, "", api.ErrShort
	}
	n, _ := binary.Uvarint([]byte(s))
	if n >= api.MaxNum || short(n) != s[:last+1] {
		return 0, "", api.ErrCode
	}
	return n, s[last+1:], api.OK
}

// eachText hands out every text of up to most bytes of those.
func eachText(bytes string, most int, out func(s string)) {
	l := []string{""}
	for n := 0; ; n++ {
		longer := []string{}
		for _, s := range l {
			out(s)
			for i := range len(bytes) {
				longer = append(longer, s+bytes[i:i+1])
			}
		}
		if n == most {
			return
		}
		l = longer
	}
}

// 3.1: every text of bytes that matter.
func TestRead(t *testing.T) {
	eachText("\x00\x01\x1f\x20\x80\xff", 7, func(s string) {
		n, rest, e := num.Read(s)
		wantN, wantRest, wantE := wordsOfRead(s)
		isNumber(t, "Read", n, e, wantN, wantE)
		isText(t, "what is behind", rest, e, wantRest, wantE)
	})
	for _, n := range append(edges(), some(1000, 4)...) {
		for _, behind := range []string{"", "\x00", "\x80", "x", strings.Repeat("\xff", 20)} {
			got, rest, e := num.Read(short(n) + behind)
			isNumber(t, "Read", got, e, n, api.OK)
			isText(t, "what is behind", rest, e, behind, api.OK)
		}
	}
}

// 3.1: what is wrong, told by hand.
func TestReadWrong(t *testing.T) {
	for _, l := range []struct {
		s    string
		want api.Errno
	}{
		{"", api.ErrShort},
		{"\x80", api.ErrShort},
		{"\xff\xff\xff\xff\xff", api.ErrShort},
		{"\xff\xff\xff\xff\xff\xff", api.ErrCode},
		{"\x80\x80\x80\x80\x80\x80", api.ErrCode},
		{"\x80\x80\x80\x80\x80\x80\x01", api.ErrCode},
		{"\x80\x00", api.ErrCode},
		{"\xff\x00", api.ErrCode},
		{"\x80\x80\x00x", api.ErrCode},
		{"\xff\xff\xff\xff\xff\x00", api.ErrCode},
		{"\xff\xff\xff\xff\xff\x1f", api.OK},
		{"\x80\x80\x80\x80\x80\x20", api.ErrCode},
		{"\xff\xff\xff\xff\xff\x7f", api.ErrCode},
	} {
		n, rest, e := num.Read(l.s)
		if e != l.want || e != api.OK && (n != 0 || rest != "") {
			t.Errorf("% x: %d, % x, error %d; not error %d", l.s, n, rest, e, l.want)
		}
	}
	for _, n := range edges() {
		s := short(n)
		for i := range len(s) {
			got, rest, e := num.Read(s[:i])
			isNumber(t, "cut short", got, e, 0, api.ErrShort)
			isText(t, "cut short", rest, e, "", api.ErrShort)
		}
	}
}

// 3.2
func TestRecord(t *testing.T) {
	for width := 1; width <= api.MaxWidth; width++ {
		for i := range uint64(50) {
			l := some(width, 5+i)
			s, e := num.Record(l...)
			isText(t, "Record", s, e, fives(l), api.OK)
		}
		l := slices.Repeat([]uint64{api.MaxNum - 1}, width)
		s, e := num.Record(l...)
		isText(t, "the highest numbers", s, e, strings.Repeat("\xff", 5*width), api.OK)
		for i := range width {
			for _, n := range pasts() {
				l[i] = n
				s, e = num.Record(l...)
				isText(t, "one is no number", s, e, "", api.ErrRange)
			}
			l[i] = api.MaxNum - 1
		}
	}
	for _, width := range []int{0, api.MaxWidth + 1, api.MaxWidth + 2, 100} {
		s, e := num.Record(make([]uint64, width)...)
		isText(t, "not from one to MaxWidth", s, e, "", api.ErrRange)
	}
	s, e := num.Record()
	isText(t, "of nothing", s, e, "", api.ErrRange)
}

// 3.2
func TestSplit(t *testing.T) {
	for width := 1; width <= api.MaxWidth; width++ {
		for many := range 20 {
			want := [][]uint64{}
			for i := range many {
				want = append(want, some(width, uint64(60+i)))
			}
			s := fives(slices.Concat(want...))
			got, e := num.Split(s, width)
			isRecords(t, "Split", got, e, want, api.OK)
			for cut := 1; cut < 5*width && many > 0; cut++ {
				got, e = num.Split(s[:len(s)-cut], width)
				isRecords(t, "cut short", got, e, nil, api.ErrShort)
			}
			for more := 1; more < 5*width; more++ {
				got, e = num.Split(s+strings.Repeat("\x00", more), width)
				isRecords(t, "too many", got, e, nil, api.ErrShort)
			}
		}
	}
	for _, width := range []int{0, -1, -5, api.MaxWidth + 1, 100, math.MinInt, math.MaxInt, math.MaxInt / 5} {
		for _, n := range []int{0, 1, 5, 45, 5040} {
			got, e := num.Split(strings.Repeat("\x00", n), width)
			isRecords(t, "not from 1 to MaxWidth", got, e, nil, api.ErrRange)
		}
	}
}

// wordsOfLess are what the chapter says of Less, word by word.
func wordsOfLess(a, b []uint64) bool {
	for i := range max(len(a), len(b)) {
		if i == len(a) || i == len(b) {
			return i == len(a)
		}
		if a[i] != b[i] {
			return a[i] < b[i]
		}
	}
	return false
}

// 3.2: every list of up to three numbers that matter, those past MaxNum too.
func TestLess(t *testing.T) {
	lists := [][]uint64{nil}
	for from := 0; len(lists) < 1+5+25+125; {
		end := len(lists)
		for _, l := range lists[from:end] {
			for _, n := range []uint64{0, 1, api.MaxNum - 1, api.MaxNum, math.MaxUint64} {
				lists = append(lists, append(slices.Clone(l), n))
			}
		}
		from = end
	}
	for _, a := range lists {
		for _, b := range lists {
			if got := num.Less(a, b); got != wordsOfLess(a, b) {
				t.Fatalf("%d ahead of %d: %v", a, b, got)
			}
		}
	}
	if num.Less(nil, []uint64{}) || num.Less([]uint64{}, nil) || !num.Less(nil, []uint64{0}) {
		t.Error("nothing at all, and something")
	}
}

// 3.3: what is handed in is as it was, and answers share nothing, with it or with each other.
func TestNewMemory(t *testing.T) {
	l := []uint64{1, 2, 3}
	a, b := slices.Clone(l), slices.Clone(l)
	num.Record(l...)
	num.Less(l, a)
	if !slices.Equal(l, b) || !slices.Equal(a, b) {
		t.Error("what was handed in has changed")
	}
	s := fives([]uint64{1, 2, 3, 4, 5, 6})
	x, _ := num.Split(s, 3)
	y, _ := num.Split(s, 3)
	x[0][2] = 99
	x[0] = append(x[0], 98)
	if !slices.Equal(x[1], []uint64{4, 5, 6}) || !slices.Equal(y[0], l) {
		t.Error("records share memory")
	}
	text := "\x05" + strings.Repeat("x", 50)
	_, rest, _ := num.Read(text)
	if unsafe.StringData(rest) == unsafe.StringData(text[1:]) {
		t.Error("what is behind is no new memory")
	}
}

// 3.4
func TestThereAndBack(t *testing.T) {
	for _, n := range append(edges(), some(2000, 6)...) {
		s, _ := num.Put(n)
		got, e := num.Get(s)
		isNumber(t, "what was put", got, e, n, api.OK)
		s, _ = num.Short(n)
		got, rest, e := num.Read(s)
		isNumber(t, "what was put short", got, e, n, api.OK)
		isText(t, "behind it", rest, e, "", api.OK)
		record, _ := num.Record(n, n/2)
		l, e := num.Split(record+record, 2)
		isRecords(t, "records", l, e, [][]uint64{{n, n / 2}, {n, n / 2}}, api.OK)
	}
	eachText("\x00\x01\x1f\x20\x80\xff", 6, func(s string) {
		if n, rest, e := num.Read(s); e == api.OK {
			again, e := num.Short(n)
			isText(t, "what is read has its bytes", again+rest, e, s, api.OK)
		}
	})
}

// 3.5
func TestOrder(t *testing.T) {
	l := append(edges(), some(200, 7)...)
	for _, a := range l {
		for _, b := range l {
			x, _ := num.Put(a)
			y, _ := num.Put(b)
			if (x < y) != (a < b) {
				t.Fatalf("the bytes of %d and of %d stand in another order", a, b)
			}
		}
	}
	for i := range uint64(3000) {
		a, b := some(1+int(i%8), 2*i), some(1+int(i%3), 2*i+1)
		copy(b, a[:min(len(a), int(i%4))])
		x, _ := num.Record(a...)
		y, _ := num.Record(b...)
		if (x < y) != num.Less(a, b) || (y < x) != num.Less(b, a) {
			t.Fatalf("the records of %d and of %d stand in another order", a, b)
		}
	}
}

// P1, P3, P4: whatever is handed in, each call answers the same twice, and leaves no goroutine.
func TestWhatever(t *testing.T) {
	before := runtime.NumGoroutine()
	r := rand.New(rand.NewPCG(8, 3))
	for range 5000 {
		bytes := make([]byte, r.IntN(90))
		for i := range bytes {
			bytes[i] = byte(r.Uint32()) | byte(r.IntN(2)<<7)
		}
		s, width := string(bytes), r.IntN(12)-2
		g1, e1 := num.Get(s)
		g2, e2 := num.Get(s)
		isNumber(t, "Get again", g2, e2, g1, e1)
		n1, r1, e1 := num.Read(s)
		n2, r2, e2 := num.Read(s)
		isNumber(t, "Read again", n2, e2, n1, e1)
		isText(t, "Read again", r2, e2, r1, e1)
		l1, e1 := num.Split(s, width)
		l2, e2 := num.Split(s, width)
		isRecords(t, "Split again", l2, e2, l1, e1)
	}
	if after := runtime.NumGoroutine(); after > before {
		t.Errorf("%d goroutines, where %d were", after, before)
	}
}
