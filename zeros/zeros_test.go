package zeros_test

import (
	"math"
	"math/rand/v2"
	"runtime"
	"slices"
	"strings"
	"testing"

	"wringer/api"
	"wringer/zeros"
)

// some makes a text of so many bytes, each one 0 but every nth, the same at each run.
func some(many, nth int) string {
	r := rand.New(rand.NewPCG(uint64(many), uint64(nth)))
	text := make([]byte, many)
	for i := range text {
		if r.IntN(nth) == 0 {
			text[i] = byte(r.IntN(256))
		}
	}
	return string(text)
}

// counted are a number's digits, each less 1, by the words of chapter 19.
func counted(n uint64) []uint64 {
	l := []uint64{}
	for n > 0 {
		if n%2 == 1 {
			l = append(l, 1-1)
			n = n - 1
		} else {
			l = append(l, 2-1)
			n = n - 2
		}
		n = n / 2
	}
	return l
}

// told are the symbols of bytes, by the words of chapter 19.
func told(s string) []uint64 {
	l := []uint64{}
	for i := 0; i < len(s); {
		if s[i] != 0 {
			l = append(l, uint64(s[i])+1)
			i++
			continue
		}
		run := uint64(0)
		for i < len(s) && s[i] == 0 {
			i++
			run++
		}
		l = append(l, counted(run)...)
	}
	return append(l, api.NumSymbols-1)
}

// texts are some of many kinds, up to MaxText bytes.
func texts() []string {
	every := []byte{}
	for c := range 256 {
		every = append(every, byte(c))
	}
	zero := strings.Repeat("\x00", 9)
	l := []string{"", "\x00", "\x01", "\xfe", "\xff", "\x00\x00", "ab", "\xfe\xff\xfe", zero + "ab", "a" + zero + "b", "ab" + zero, zero + "\xff" + zero + zero + "\xfe" + zero, string(every), string(every) + string(every), "banana", "\x00\x00\x00\x07"}
	for many := 1; many < 70; many++ {
		l = append(l, strings.Repeat("\x00", many), strings.Repeat("\x00", many)+"x", "x"+strings.Repeat("\x00", many), strings.Repeat("\x01", many))
	}
	for _, many := range []int{100, 255, 256, 1000, api.MaxText - 1, api.MaxText} {
		l = append(l, strings.Repeat("\x00", many), strings.Repeat("\xff", many), some(many, 1), some(many, 2), some(many, 9), some(many, 3000))
	}
	return l
}

func TestExample(t *testing.T) {
	l, e := zeros.Encode("\x00\x00\x00\x07")
	if e != api.OK || !slices.Equal(l, []uint64{0, 0, 8, 257}) {
		t.Errorf("error %d, %v", e, l)
	}
}

// 19.1, 19.4, 19.5: the digits of each number there is, how many, and the number again.
func TestDigits(t *testing.T) {
	for n := uint64(1); n <= api.MaxText; n++ {
		want, bits := counted(n), 0
		for 1<<bits <= n+1 {
			bits++
		}
		l, e := zeros.Digits(n)
		if e != api.OK || !slices.Equal(l, want) || len(l) != bits-1 {
			t.Fatalf("Digits of %d: error %d, %v", n, e, l)
		}
		if again, e := zeros.Number(l...); e != api.OK || again != n {
			t.Fatalf("Number of %v: error %d, %d", l, e, again)
		}
	}
	for n, want := range map[uint64][]uint64{1: {0}, 2: {1}, 3: {0, 0}, 4: {1, 0}, 5: {0, 1}, 6: {1, 1}, 7: {0, 0, 0}} {
		if l, e := zeros.Digits(n); e != api.OK || !slices.Equal(l, want) {
			t.Errorf("Digits of %d: error %d, %v", n, e, l)
		}
	}
}

// 19.1, P2: 0, and what is above MaxText, has no digits.
func TestDigitsRange(t *testing.T) {
	for _, n := range []uint64{0, api.MaxText + 1, api.MaxText + 2, 1 << 40, 1 << 63, math.MaxUint64} {
		if l, e := zeros.Digits(n); e != api.ErrRange || len(l) != 0 {
			t.Errorf("Digits of %d: error %d, %v", n, e, l)
		}
	}
}

// 19.1: any digits are those of a number, and of that one only.
func TestNumber(t *testing.T) {
	for long := 1; long <= 17; long++ {
		for bits := range 1 << long {
			l, want := []uint64{}, uint64(0)
			for i := range long {
				d := uint64(bits >> i & 1)
				l, want = append(l, d), want+(d+1)<<i
			}
			n, e := zeros.Number(l...)
			if want > api.MaxText {
				if e != api.ErrFull || n != 0 {
					t.Fatalf("Number of %v: error %d, %d, where it is %d", l, e, n, want)
				}
				continue
			}
			if e != api.OK || n != want || !slices.Equal(counted(n), l) {
				t.Fatalf("Number of %v: error %d, %d, not %d", l, e, n, want)
			}
		}
	}
}

// 19.1, P2: no digits, digits above 1 at any place, and numbers above MaxText, however many digits there are: a wrong digit is told ahead of these.
func TestNumberWrong(t *testing.T) {
	if n, e := zeros.Number(); e != api.ErrCode || n != 0 {
		t.Errorf("Number of nothing: error %d, %d", e, n)
	}
	for _, many := range []int{1, 2, 16, 17, 18, 63, 64, 65, 66, 128, 1000, 100000} {
		for _, digit := range []uint64{0, 1} {
			l := slices.Repeat([]uint64{digit}, many)
			if n, e := zeros.Number(l...); many > 16 && (e != api.ErrFull || n != 0) {
				t.Errorf("Number of %d times %d: error %d, %d", many, digit, e, n)
			}
			for _, at := range []int{0, many / 2, many - 1} {
				for _, wrong := range []uint64{2, 3, 257, 1 << 32, math.MaxUint64} {
					l[at] = wrong
					if n, e := zeros.Number(l...); e != api.ErrCode || n != 0 {
						t.Errorf("Number of %d digits, %d at %d: error %d, %d", many, wrong, at, e, n)
					}
				}
				l[at] = digit
			}
		}
	}
}

// 19.2, 19.4: a text's symbols, and the text again, of as many symbols as there are, whatever stands behind the end.
func TestThereAndBack(t *testing.T) {
	for _, s := range texts() {
		l, e := zeros.Encode(s)
		if e != api.OK || !slices.Equal(l, told(s)) {
			t.Fatalf("Encode of %d bytes: error %d", len(s), e)
		}
		for _, behind := range [][]uint64{nil, {257}, {0, 1}, {258}, {math.MaxUint64, 7}, slices.Repeat([]uint64{1}, 100)} {
			text, many, e := zeros.Decode(slices.Concat(l, behind))
			if e != api.OK || text != s || many != len(l) {
				t.Fatalf("Decode of %d bytes' symbols: error %d, %d bytes, %d symbols", len(s), e, len(text), many)
			}
		}
	}
}

// 19.2, P2: more than MaxText bytes are out of range.
func TestEncodeRange(t *testing.T) {
	for _, many := range []int{api.MaxText + 1, api.MaxText + 2, 3 * api.MaxText} {
		for _, s := range []string{strings.Repeat("\x00", many), strings.Repeat("x", many), some(many, 7)} {
			if l, e := zeros.Encode(s); e != api.ErrRange || len(l) != 0 {
				t.Errorf("Encode of %d bytes: error %d, %d symbols", many, e, len(l))
			}
		}
	}
}

// list puts numbers, and lists of them, one behind the other.
func list(parts ...any) []uint64 {
	l := []uint64{}
	for _, p := range parts {
		switch x := p.(type) {
		case int:
			l = append(l, uint64(x))
		case uint64:
			l = append(l, x)
		case []uint64:
			l = append(l, x...)
		}
	}
	return l
}

// 19.2, P2: what is wrong with symbols, and of two faults the one that comes first; a run is asked as soon as its digits end.
func TestDecodeWrong(t *testing.T) {
	full, most := counted(api.MaxText), slices.Repeat([]uint64{9}, api.MaxText)
	for what, c := range map[string]struct {
		l    []uint64
		want api.Errno
	}{
		"nothing":                         {nil, api.ErrShort},
		"a digit":                         {list(0), api.ErrShort},
		"digits":                          {list(1, 0, 1), api.ErrShort},
		"a byte":                          {list(2), api.ErrShort},
		"the last byte":                   {list(256), api.ErrShort},
		"bytes and digits":                {list(5, 6, 0, 7, 1), api.ErrShort},
		"above the end":                   {list(258), api.ErrCode},
		"far above the end":               {list(uint64(math.MaxUint64)), api.ErrCode},
		"above the end by a byte's width": {list(257 + 256), api.ErrCode},
		"the end's low bits":              {list(uint64(1<<32 + 257)), api.ErrCode},
		"above the end behind bytes":      {list(5, 6, 258, 257), api.ErrCode},
		"above the end behind digits":     {list(0, 1, 258, 257), api.ErrCode},
		"MaxText zeros, no end":           {full, api.ErrShort},
		"MaxText zeros, above the end":    {list(full, 258), api.ErrCode},
		"MaxText zeros and a byte":        {list(full, 2, 257), api.ErrFull},
		"a byte and MaxText zeros":        {list(2, full, 257), api.ErrFull},
		"too many zeros":                  {list(counted(api.MaxText+1), 257), api.ErrFull},
		"too many zeros, no end":          {counted(api.MaxText + 1), api.ErrFull},
		"too many zeros, above the end":   {list(counted(api.MaxText+1), 258), api.ErrFull},
		"above the end, too many zeros":   {list(258, counted(api.MaxText+1)), api.ErrCode},
		"MaxText bytes, no end":           {most, api.ErrShort},
		"MaxText bytes and one":           {list(most, 3, 257), api.ErrFull},
		"MaxText bytes and one, no end":   {list(most, 3), api.ErrFull},
		"MaxText bytes and a zero":        {list(most, 0, 257), api.ErrFull},
		"MaxText bytes and a zero, above": {list(most, 0, 300), api.ErrFull},
		"MaxText bytes, above the end":    {list(most, 300, 3), api.ErrCode},
		"runs that are too long together": {list(counted(api.MaxText/2), 9, counted(api.MaxText/2), 257), api.ErrFull},
		"very many digits":                {list(slices.Repeat([]uint64{0}, 100000), 257), api.ErrFull},
		"64 digits":                       {list(slices.Repeat([]uint64{1}, 64), 257), api.ErrFull},
		"65 digits":                       {list(slices.Repeat([]uint64{0}, 65), 257), api.ErrFull},
	} {
		if s, many, e := zeros.Decode(c.l); e != c.want || s != "" || many != 0 {
			t.Errorf("%s: error %d, not %d, %d bytes, %d symbols", what, e, c.want, len(s), many)
		}
	}
}

// 19.2: as many bytes as MaxText are right, by one run, by bytes, and by both.
func TestDecodeMost(t *testing.T) {
	half := counted(api.MaxText / 2)
	for what, l := range map[string][]uint64{
		"a run":         list(counted(api.MaxText), 257),
		"bytes":         list(slices.Repeat([]uint64{256}, api.MaxText), 257),
		"a byte, a run": list(2, counted(api.MaxText-1), 257),
		"a run, a byte": list(counted(api.MaxText-1), 2, 257),
		"two runs":      list(counted(api.MaxText/2-1), 2, half, 257),
	} {
		s, many, e := zeros.Decode(append(slices.Clone(l), 0, 0))
		again, f := zeros.Encode(s)
		if e != api.OK || f != api.OK || len(s) != api.MaxText || many != len(l) || !slices.Equal(again, l) {
			t.Errorf("%s: error %d and %d, %d bytes, %d symbols", what, e, f, len(s), many)
		}
	}
}

// 19.3: what is answered is its own, and what is handed in stays as it is.
func TestNewMemory(t *testing.T) {
	digits := []uint64{1, 0, 1}
	n, _ := zeros.Number(digits...)
	one, _ := zeros.Digits(n)
	other, _ := zeros.Digits(n)
	one[0] = 9
	if other[0] != 1 || !slices.Equal(digits, []uint64{1, 0, 1}) {
		t.Errorf("Digits: %v, of %v", other, digits)
	}
	l, _ := zeros.Encode("\x00\x00ab")
	same, _ := zeros.Encode("\x00\x00ab")
	kept := slices.Clone(l)
	s, _, _ := zeros.Decode(l)
	if !slices.Equal(l, kept) {
		t.Errorf("Decode: %v were %v", l, kept)
	}
	clear(l)
	if s != "\x00\x00ab" || !slices.Equal(same, kept) {
		t.Errorf("%q, %v", s, same)
	}
	room := []uint64{0, 1, 2, 257, 77, 78}
	if zeros.Decode(room[:4]); room[4] != 77 || room[5] != 78 {
		t.Errorf("Decode wrote behind what it was handed: %v", room)
	}
}

// decoded answers Decode by the words of chapter 19, symbol by symbol.
func decoded(l []uint64) (string, int, api.Errno) {
	text, run, worth := []byte{}, 0, 1
	for i, c := range l {
		if c <= 1 {
			run, worth = min(run+int(c+1)*worth, 1<<30), min(2*worth, 1<<30)
			continue
		}
		if len(text)+run > api.MaxText {
			return "", 0, api.ErrFull
		}
		text, run, worth = append(text, make([]byte, run)...), 0, 1
		if c > 257 {
			return "", 0, api.ErrCode
		}
		if c == 257 {
			return string(text), i + 1, api.OK
		}
		if len(text) == api.MaxText {
			return "", 0, api.ErrFull
		}
		text = append(text, byte(c-1))
	}
	if len(text)+run > api.MaxText {
		return "", 0, api.ErrFull
	}
	return "", 0, api.ErrShort
}

// 19.2, 19.4, P1, P3, P4: whatever symbols there are, each call answers the same twice, and leaves no goroutine; what is decoded has the symbols that were read.
func TestWhatever(t *testing.T) {
	before := runtime.NumGoroutine()
	r := rand.New(rand.NewPCG(19, 19))
	right := 0
	for range 5000 {
		l := []uint64{}
		for range r.IntN(60) {
			switch r.IntN(12) {
			case 0:
				l = append(l, uint64(r.IntN(300)))
			case 1:
				l = append(l, uint64(250+r.IntN(9)))
			default:
				l = append(l, uint64(r.IntN(2+r.IntN(2))))
			}
		}
		s, many, e := zeros.Decode(l)
		again, more, f := zeros.Decode(l)
		want, read, is := decoded(l)
		if s != again || many != more || e != f || s != want || many != read || e != is {
			t.Fatalf("Decode of %v: error %d, not %d, %d symbols, not %d", l, e, is, many, read)
		}
		if e == api.OK {
			right++
			if back, e := zeros.Encode(s); e != api.OK || !slices.Equal(back, l[:many]) {
				t.Fatalf("Encode of what %v is: error %d, %v", l, e, back)
			}
		}
	}
	if right < 100 {
		t.Errorf("only %d lists were right", right)
	}
	if after := runtime.NumGoroutine(); after > before {
		t.Errorf("%d goroutines, where %d were", after, before)
	}
}
