package segs_test

import (
	"math"
	"math/rand/v2"
	"runtime"
	"slices"
	"strings"
	"testing"
	"unsafe"

	"wringer/api"
	"wringer/segs"
)

// rows are some that are right.
func rows() []string { return []string{fresh(), anyRow(1), anyRow(2)} }

// wrongRows are texts that are no rows.
func wrongRows() []string {
	row := fresh()
	return []string{"", "x", row[:255], row[1:], row + "\x00", row + row, strings.Repeat("\x00", 256), row[:255] + "\x00", row[:100] + "\x65" + row[101:]}
}

// wrongBits are bits made by hand that are not right.
func wrongBits() []api.Bitstr {
	return []api.Bitstr{{N: 1}, {N: -1}, {B: "\x00", N: 0}, {B: "\x11", N: 7}, {B: "\x14", N: 5}, {N: math.MaxInt}, {N: math.MinInt}, {B: string(make([]byte, api.MaxBits/8+1)), N: api.MaxBits + 1}}
}

// segments are some of many kinds: of one byte, of as many as may be, alike ones, others.
func segments() []string {
	l := []string{"\x00", "a", "\xff", "ab", "aaaa", "banana", "annbaa", fresh(), fresh() + fresh(), "\x00\x01\x00\x00\x01", strings.Repeat("ab", 99)}
	for many := 1; many < 12; many++ {
		l = append(l, strings.Repeat("\x00", many), strings.Repeat("a", many), "x"+strings.Repeat("a", many)+"x", letters(many, 3))
	}
	for _, many := range []int{100, 255, 256, 257, api.SegSize - 1, api.SegSize} {
		l = append(l, strings.Repeat("\x00", many), strings.Repeat("\xff", many), letters(many, 2), letters(many, 9), letters(many, 100), letters(many, 256))
	}
	return append(l, steep())
}

// steep is a segment, of the fresh row, whose symbols are there as often as numbers of Fibonacci say, the end being the first one, so that some codes are as long as they get.
func steep() string {
	far, one, other := []byte{}, 1, 2
	for c := byte(1); len(far)+one <= api.SegSize; c++ {
		far = append(far, slices.Repeat([]byte{7 * c}, one)...)
		one, other = other, one+other
	}
	text, _ := unmoved(fresh(), far)
	return text
}

// noSegments are texts that are none.
func noSegments() []string {
	return []string{"", letters(api.SegSize+1, 256), strings.Repeat("\x00", api.SegSize+1), letters(2*api.SegSize, 5), letters(api.MaxText, 7), letters(api.MaxText+1, 7)}
}

// isWeights holds what Weights tells against what it should.
func isWeights(t *testing.T, row, text string, want []uint64, wantE api.Errno) {
	t.Helper()
	if w, e := segs.Weights(row, text); !slices.Equal(w, want) || e != wantE {
		t.Fatalf("Weights of %d bytes, %.30q: %v, error %d; not %v, error %d, as it should be", len(text), text, w, e, want, wantE)
	}
}

// isEncode holds what Encode tells against what it should.
func isEncode(t *testing.T, b api.Bitstr, row, text string, want api.Bitstr, wantRow string, wantE api.Errno) {
	t.Helper()
	if got, behind, e := segs.Encode(b, row, text); got != want || behind != wantRow || e != wantE {
		t.Fatalf("Encode behind %d bits of %d bytes, %.30q: %d bits, a row of %d, error %d; not %d bits, a row of %d, error %d, as it should be", b.N, len(text), text, got.N, len(behind), e, want.N, len(wantRow), wantE)
	}
}

// isAll holds what All tells against what it should.
func isAll(t *testing.T, text string, want api.Bitstr, wantCount int, wantE api.Errno) {
	t.Helper()
	if got, count, e := segs.All(text); got != want || count != wantCount || e != wantE {
		t.Fatalf("All of %d bytes, %.30q: %d bits, %d segments, error %d; not %d bits, %d segments, error %d, as it should be", len(text), text, got.N, count, e, want.N, wantCount, wantE)
	}
}

// The example: a's far is 97, its symbol one more; a run of three has the digits 1 1. The lengths are 1 of 0, 2 of 98 and of 257.
func TestExample(t *testing.T) {
	w := make([]uint64, 258)
	w[98], w[0], w[257] = 1, 2, 1
	isWeights(t, fresh(), "aaaa", w, api.OK)
	lengths := "0001" + "0" + "110" + strings.Repeat("0", 96) + "10100" + "11110" + strings.Repeat("0", 157) + "10100"
	want := bitsOf(lengths + "10" + "0" + "0" + "11")
	isEncode(t, api.Bitstr{}, fresh(), "aaaa", want, "a"+strings.Replace(fresh(), "a", "", 1), api.OK)
	isAll(t, "aaaa", want, 1, api.OK)
}

// 23.1: how often each symbol is among a segment's, of many rows.
func TestWeights(t *testing.T) {
	for _, row := range rows() {
		for _, s := range segments() {
			far, _ := moved(row, s)
			isWeights(t, row, s, weights(symbols(far)), api.OK)
		}
	}
	for _, c := range []struct {
		text    string
		symbols []uint64
	}{
		{"\x00", []uint64{0, 257}},
		{"\x00\x00", []uint64{1, 257}},
		{strings.Repeat("\x00", 4), []uint64{1, 0, 257}},
		{strings.Repeat("\x00", api.SegSize), []uint64{1, 0, 0, 0, 0, 0, 0, 0, 0, 257}},
		{"ab", []uint64{98, 99, 257}},
		{"aba", []uint64{98, 99, 2, 257}},
		{"\xff", []uint64{256, 257}},
		{"\x01\x00\x00\x00\x01", []uint64{2, 2, 1, 2, 257}},
		{strings.Repeat("\x01\x00", api.SegSize/2), append(slices.Repeat([]uint64{2}, api.SegSize), 257)},
	} {
		isWeights(t, fresh(), c.text, weights(c.symbols), api.OK)
	}
}

// 23.1, P2: a row that is none is told ahead of a text that is none.
func TestWeightsWrong(t *testing.T) {
	for _, row := range wrongRows() {
		for _, s := range append(noSegments(), "a", "banana") {
			isWeights(t, row, s, nil, api.ErrForm)
		}
	}
	for _, row := range rows() {
		for _, s := range noSegments() {
			isWeights(t, row, s, nil, api.ErrRange)
		}
	}
}

// 23.1, 23.6: segments of many kinds, behind any many bits, of many rows; none takes more bits than it may.
func TestEncode(t *testing.T) {
	for _, row := range rows() {
		for _, s := range segments() {
			one, behind := told(row, s)
			if len(one) > 9*len(s)+8000 {
				t.Fatalf("%d bytes take %d bits", len(s), len(one))
			}
			for ahead := range 10 {
				isEncode(t, bitsOf(some(ahead, 1)), row, s, bitsOf(some(ahead, 1)+one), behind, api.OK)
			}
		}
	}
}

// 23.1, P2: what is wrong with bits is told ahead of what is wrong with a row, and that ahead of a text that is none; all else is zero, also where there is no room.
func TestEncodeWrong(t *testing.T) {
	texts := append(noSegments(), "a", "banana")
	for _, b := range wrongBits() {
		for _, row := range append(wrongRows(), fresh()) {
			for _, s := range texts {
				isEncode(t, b, row, s, api.Bitstr{}, "", api.ErrForm)
			}
		}
	}
	full := bitsOf(some(api.MaxBits, 2))
	for _, b := range []api.Bitstr{{}, bitsOf("1"), bitsOf("10110"), full} {
		for _, row := range wrongRows() {
			for _, s := range texts {
				isEncode(t, b, row, s, api.Bitstr{}, "", api.ErrForm)
			}
		}
		for _, row := range rows() {
			for _, s := range noSegments() {
				isEncode(t, b, row, s, api.Bitstr{}, "", api.ErrRange)
			}
		}
	}
}

// 23.1: up to MaxBits there is room, and behind it bits and row are as they were.
func TestEncodeFull(t *testing.T) {
	for _, s := range []string{"a", "banana", letters(api.SegSize, 256), strings.Repeat("\x00", api.SegSize)} {
		one, behind := told(anyRow(1), s)
		ahead := some(api.MaxBits-len(one), 3)
		isEncode(t, bitsOf(ahead), anyRow(1), s, bitsOf(ahead+one), behind, api.OK)
		for _, more := range []string{"0", "1", "10110", one[:len(one)-1], one} {
			b := bitsOf(ahead + more)
			isEncode(t, b, anyRow(1), s, b, anyRow(1), api.ErrFull)
		}
	}
}

// 23.1: segments one behind the other, the row of each the one behind the one ahead.
func TestParts(t *testing.T) {
	s := letters(900, 30)
	for _, at := range []int{388, 400, 450, 512} {
		one, row := told(fresh(), s[:at])
		other, behind := told(row, s[at:])
		b, next, e := segs.Encode(api.Bitstr{}, fresh(), s[:at])
		if e != api.OK || next != row {
			t.Fatalf("cut at %d: error %d", at, e)
		}
		isEncode(t, b, next, s[at:], bitsOf(one+other), behind, api.OK)
	}
}

// texts are some of many kinds and sizes, up to MaxText bytes.
func texts() []string {
	l := append(segments(), "")
	for _, many := range []int{api.SegSize + 1, 2*api.SegSize - 1, 2 * api.SegSize, 2*api.SegSize + 1, 3000, 5 * api.SegSize} {
		l = append(l, strings.Repeat("\xff", many), letters(many, 3), letters(many, 256))
	}
	return append(l, strings.Repeat("\x00", api.MaxText), letters(api.MaxText-1, 4), letters(api.MaxText, 256))
}

// 23.3, 23.5, 23.6: all segments of a text, and the text again.
func TestAll(t *testing.T) {
	for _, s := range texts() {
		all, count := whole(s)
		if want := (len(s) + api.SegSize - 1) / api.SegSize; count != want || len(all) > 9*len(s)+8000*count {
			t.Fatalf("%d bytes have %d segments, of %d bits", len(s), count, len(all))
		}
		isAll(t, s, bitsOf(all), count, api.OK)
		isBack(t, "all", bitsOf(all), count, s, api.OK)
	}
}

// 23.3, P2: more than MaxText bytes are out of range.
func TestAllRange(t *testing.T) {
	for _, many := range []int{api.MaxText + 1, api.MaxText + 2, 3 * api.MaxText} {
		for _, of := range []int{1, 7, 256} {
			isAll(t, letters(many, of), api.Bitstr{}, 0, api.ErrRange)
		}
	}
}

// 23.4: what is answered is its own, also where it is what was handed in, and what is handed in stays as it is.
func TestNewMemory(t *testing.T) {
	row, text := anyRow(3), strings.Repeat("ab", 9)
	w, _ := segs.Weights(row, text)
	other, _ := segs.Weights(row, text)
	kept := slices.Clone(w)
	clear(w)
	if !slices.Equal(other, kept) {
		t.Errorf("Weights: %v, where they were %v", other, kept)
	}
	full := bitsOf(some(api.MaxBits, 4))
	b, behind, _ := segs.Encode(api.Bitstr{}, row, text)
	same, again, e := segs.Encode(full, row, text)
	c, _ := segs.Decode(b, 0, row)
	d, _ := segs.Decode(b, 0, row)
	all, _, _ := segs.All(text)
	one, _ := segs.Back(all, 1)
	two, _ := segs.Back(all, 1)
	if same != full || again != row || e != api.ErrFull || one != text || c.Text != text || c != d {
		t.Errorf("error %d, %q, %q", e, one, c.Text)
	}
	seen := map[*byte]bool{}
	for _, s := range []string{row, text, full.B, b.B, behind, same.B, again, c.Text, c.Row, d.Text, d.Row, all.B, one, two} {
		if at := unsafe.StringData(s); seen[at] {
			t.Fatal("what is answered is no new memory")
		} else {
			seen[at] = true
		}
	}
}

// P1, P3, P4: whatever is handed in, each call answers the same twice, and leaves no goroutine.
func TestWhatever(t *testing.T) {
	before := runtime.NumGoroutine()
	r := rand.New(rand.NewPCG(23, 24))
	for i := range 600 {
		row := []byte(anyRow(uint64(i)))
		switch r.IntN(6) {
		case 0:
			row[r.IntN(256)] = byte(r.IntN(256))
		case 1:
			row = row[:r.IntN(257)]
		}
		b := api.Bitstr{B: letters(r.IntN(90), 256), N: r.IntN(8*90) - 9}
		if r.IntN(3) > 0 {
			b = bitsOf(some(r.IntN(700), uint64(i)))
		}
		text := letters(r.IntN(700), 1+r.IntN(256))
		wantE := api.OK
		if !isRow(string(row)) {
			wantE = api.ErrForm
		} else if len(text) == 0 || len(text) > api.SegSize {
			wantE = api.ErrRange
		}
		w, e := segs.Weights(string(row), text)
		v, f := segs.Weights(string(row), text)
		if !slices.Equal(v, w) || e != f || e != wantE {
			t.Fatalf("Weights of %q: error %d, and %d, not %d", text, e, f, wantE)
		}
		x, behind, e := segs.Encode(b, string(row), text)
		y, again, f := segs.Encode(b, string(row), text)
		if x != y || behind != again || e != f {
			t.Fatalf("Encode of %q: error %d, and %d", text, e, f)
		}
		at, count := r.IntN(100)-5, r.IntN(9)-2
		c, e := segs.Decode(b, at, string(row))
		d, f := segs.Decode(b, at, string(row))
		if c != d || e != f {
			t.Fatalf("Decode of %v: error %d, and %d", b, e, f)
		}
		s, e := segs.Back(b, count)
		u, f := segs.Back(b, count)
		if s != u || e != f {
			t.Fatalf("Back of %v: error %d, and %d", b, e, f)
		}
	}
	if after := runtime.NumGoroutine(); after > before {
		t.Errorf("%d goroutines, where %d were", after, before)
	}
}
