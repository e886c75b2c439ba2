package crc_test

import (
	"hash/crc32"
	"math/rand/v2"
	"runtime"
	"strings"
	"testing"
	"unsafe"

	"wringer/api"
	"wringer/crc"
)

// some makes bytes, the same at each run.
func some(n int, seed uint64) string {
	r := rand.New(rand.NewPCG(seed, 2))
	s := make([]byte, n)
	for i := range s {
		s[i] = byte(r.IntN(256))
	}
	return string(s)
}

// bitByBit is the sum as the chapter's words tell it.
func bitByBit(s string) uint32 {
	state := uint32(0xffffffff)
	for i := range len(s) {
		for j := range 8 {
			low := uint32(s[i]>>j)&1 ^ state&1
			state >>= 1
			if low == 1 {
				state ^= 0xedb88320
			}
		}
	}
	return ^state
}

// framed is bytes with their sum's four bytes, the lowest first.
func framed(s string) string {
	sum := bitByBit(s)
	return s + string([]byte{byte(sum), byte(sum >> 8), byte(sum >> 16), byte(sum >> 24)})
}

// isText holds a text and an error against what they should be.
func isText(t *testing.T, what, got string, e api.Errno, want string, wantE api.Errno) {
	t.Helper()
	if got != want || e != wantE {
		t.Fatalf("%s: %d bytes, error %d; not %d bytes, error %d, as it should be", what, len(got), e, len(want), wantE)
	}
}

func TestExample(t *testing.T) {
	if got := crc.Sum("123456789"); got != 0xcbf43926 {
		t.Errorf("the sum of 123456789: %08x", got)
	}
	if crc.Sum() != 0 || crc.Sum("") != 0 || crc.Sum("", "") != 0 {
		t.Error("the sum of nothing is not 0")
	}
}

// 2.1
func TestSum(t *testing.T) {
	for c := range 256 {
		if s := string([]byte{byte(c)}); crc.Sum(s) != bitByBit(s) {
			t.Fatalf("the sum of the byte %d: %08x", c, crc.Sum(s))
		}
	}
	for _, n := range []int{1, 2, 3, 4, 5, 63, 64, 65, 1000, api.MaxText, api.MaxText + 1, 1 << 18} {
		s := some(n, 1)
		if got := crc.Sum(s); got != bitByBit(s) || got != crc32.ChecksumIEEE([]byte(s)) {
			t.Fatalf("the sum of %d bytes: %08x", n, got)
		}
	}
	many := []string{"a", "", "bcd", some(100, 2), "\x00", some(7, 3)}
	if crc.Sum(many...) != bitByBit(strings.Join(many, "")) {
		t.Error("the sum of many, one behind the other")
	}
	if crc.Sum("ab", "c") == crc.Sum("c", "ab") {
		t.Error("the sum does not hang on the order")
	}
}

// 2.1
func TestMore(t *testing.T) {
	for n := range 50 {
		a, b := some(n, 4), some(60-n, 5)
		if got := crc.More(bitByBit(a), b); got != bitByBit(a+b) {
			t.Fatalf("%d bytes, and more: %08x", n, got)
		}
	}
	if crc.More(0, "123456789") != 0xcbf43926 {
		t.Error("more than nothing")
	}
	for _, sum := range []uint32{0, 1, 0xcbf43926, 0xffffffff} {
		if crc.More(sum, "") != sum {
			t.Errorf("nothing more than %08x", sum)
		}
	}
}

// 2.1
func TestFrame(t *testing.T) {
	for _, n := range []int{0, 1, 4, 60, 1000, api.MaxText - 1, api.MaxText} {
		s := some(n, 6)
		f, e := crc.Frame(s)
		isText(t, "Frame", f, e, framed(s), api.OK)
		back, e := crc.Open(f)
		isText(t, "Open", back, e, s, api.OK)
	}
	f, e := crc.Frame("")
	isText(t, "the frame of nothing", f, e, "\x00\x00\x00\x00", api.OK)
	f, e = crc.Frame("123456789")
	isText(t, "the lowest byte first", f, e, "123456789\x26\x39\xf4\xcb", api.OK)
	for _, n := range []int{api.MaxText + 1, api.MaxText + 4, 2 * api.MaxText} {
		f, e = crc.Frame(some(n, 7))
		isText(t, "past MaxText", f, e, "", api.ErrRange)
	}
}

// 2.1
func TestOpenWrong(t *testing.T) {
	for n := range 4 {
		for _, s := range []string{some(n, 8), strings.Repeat("\x00", n), framed("")[:n]} {
			got, e := crc.Open(s)
			isText(t, "fewer than four bytes", got, e, "", api.ErrShort)
		}
	}
	long := some(api.MaxText+1, 9)
	got, e := crc.Open(framed(long))
	isText(t, "one past MaxText and four", got, e, "", api.ErrRange)
	got, e = crc.Open(long + "none!")
	isText(t, "past MaxText and four, and another sum", got, e, "", api.ErrRange)
	got, e = crc.Open(framed(long[1:]))
	isText(t, "MaxText and four", got, e, long[1:], api.OK)
	got, e = crc.Open(long[1:] + "none")
	isText(t, "MaxText and four, and another sum", got, e, "", api.ErrSum)
	got, e = crc.Open("none")
	isText(t, "four bytes", got, e, "", api.ErrSum)
	f := framed("123456789")
	turned := f[:9] + string([]byte{f[12], f[11], f[10], f[9]})
	got, e = crc.Open(turned)
	isText(t, "the highest byte first", got, e, "", api.ErrSum)
}

// 2.1: a frame that is cut short is none.
func TestCutShort(t *testing.T) {
	f := framed(some(70, 10))
	for n := range len(f) {
		want := api.ErrSum
		if n < 4 {
			want = api.ErrShort
		}
		got, e := crc.Open(f[:n])
		isText(t, "a frame cut short", got, e, "", want)
	}
}

// 2.2
func TestApart(t *testing.T) {
	for _, l := range []struct {
		a, b        string
		many, first int
	}{
		{"", "", 0, 0},
		{"abc", "abc", 0, 3},
		{"", "abc", 3, 0},
		{"abc", "abcde", 2, 3},
		{"abc", "abd!", 2, 2},
		{"abc", "xbc", 1, 0},
		{"abc", "xyz", 3, 0},
		{"abcde", "axcxe", 2, 1},
		{"axc", "abcdef", 4, 1},
		{"\x00", "", 1, 0},
		{"\x00a", "\x00b", 1, 1},
		{"\xff", "\x7f", 1, 0},
		{"\u00e4", "\u00f6", 1, 1},
	} {
		for _, way := range [][2]string{{l.a, l.b}, {l.b, l.a}} {
			if many, first := crc.Apart(way[0], way[1]); many != l.many || first != l.first {
				t.Errorf("%q and %q: %d, the first at %d; not %d, and %d", way[0], way[1], many, first, l.many, l.first)
			}
		}
	}
	s := some(api.MaxText+9, 11)
	if many, first := crc.Apart(s, s); many != 0 || first != len(s) {
		t.Errorf("a long text and itself: %d, the first at %d", many, first)
	}
}

// 2.3
func TestParts(t *testing.T) {
	s := some(60, 12)
	want := bitByBit(s)
	for i := 0; i <= len(s); i++ {
		if got := crc.More(crc.Sum(s[:i]), s[i:]); got != want {
			t.Fatalf("cut at %d, the sum goes on as %08x", i, got)
		}
		for j := i; j <= len(s); j++ {
			if got := crc.Sum(s[:i], s[i:j], s[j:]); got != want {
				t.Fatalf("cut at %d and %d: %08x", i, j, got)
			}
		}
	}
}

// turn has the four bytes from at on be others, by a pattern of bits.
func turn(s string, at int, pattern uint32) string {
	l := []byte(s)
	for i := range 4 {
		if at+i < len(l) {
			l[at+i] ^= byte(pattern >> (8 * i))
		}
	}
	return string(l)
}

// 2.4: the patterns that would be missed first are those of the sum's own steps, and one or two bits.
func TestBursts(t *testing.T) {
	patterns := []uint32{0xffffffff, 0xedb88320, 0x04c11db7, 0x80000001, 0xff, 0xff00, 0xff000000, 0x55555555}
	for i := range 32 {
		for j := range i + 1 {
			patterns = append(patterns, 1<<i|1<<j)
		}
	}
	r := rand.New(rand.NewPCG(13, 2))
	for range 500 {
		patterns = append(patterns, r.Uint32()|1)
	}
	for _, s := range []string{"abcd", some(40, 14), strings.Repeat("\x00", 30), strings.Repeat("\xff", 30)} {
		sum := crc.Sum(s)
		for at := 0; at+4 <= len(s); at++ {
			for _, p := range patterns {
				if crc.Sum(turn(s, at, p)) == sum {
					t.Fatalf("%d bytes, turned at %d by %08x, have the same sum", len(s), at, p)
				}
			}
		}
	}
}

// 2.4: every byte of a frame as every other one.
func TestOneByteAnother(t *testing.T) {
	for _, s := range []string{"", "a", some(40, 15), strings.Repeat("\x00", 20)} {
		f, _ := crc.Frame(s)
		for i := range len(f) {
			for x := 1; x < 256; x++ {
				l := []byte(f)
				l[i] ^= byte(x)
				got, e := crc.Open(string(l))
				isText(t, "one byte is another", got, e, "", api.ErrSum)
			}
		}
	}
}

// New memory, and P4: no goroutine is left.
func TestNewMemory(t *testing.T) {
	before := runtime.NumGoroutine()
	s := some(50, 16)
	many := []string{s, "x"}
	crc.Sum(many...)
	crc.More(1, s)
	crc.Apart(s, "x")
	f, _ := crc.Frame(s)
	back, _ := crc.Open(f)
	if unsafe.StringData(f) == unsafe.StringData(s) || unsafe.StringData(back) == unsafe.StringData(f) {
		t.Error("an answer is no new memory")
	}
	if many[0] != s || many[1] != "x" || s != some(50, 16) {
		t.Error("what was handed in has changed")
	}
	if after := runtime.NumGoroutine(); after > before {
		t.Errorf("%d goroutines, where %d were", after, before)
	}
}
