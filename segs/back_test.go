package segs_test

import (
	"math"
	"math/rand/v2"
	"slices"
	"strings"
	"testing"

	"wringer/api"
	"wringer/segs"
)

// isDecode holds what Decode tells against what it should.
func isDecode(t *testing.T, what string, b api.Bitstr, at int, row string, want api.Coded, wantE api.Errno) {
	t.Helper()
	if c, e := segs.Decode(b, at, row); c != want || e != wantE {
		t.Fatalf("Decode at %d of %d bits, %s: %d bytes, at %d, error %d; not %d bytes, at %d, error %d, as it should be", at, b.N, what, len(c.Text), c.At, e, len(want.Text), want.At, wantE)
	}
}

// isRead holds what Decode tells of a text of bits against the words of chapter 23.
func isRead(t *testing.T, what, s string, at int, row string) {
	t.Helper()
	want, wantE := read(s, at, row)
	isDecode(t, what, bitsOf(s), at, row, want, wantE)
}

// isBack holds what Back tells against what it should.
func isBack(t *testing.T, what string, b api.Bitstr, count int, want string, wantE api.Errno) {
	t.Helper()
	if s, e := segs.Back(b, count); s != want || e != wantE {
		t.Fatalf("Back of %d segments, %d bits, %s: %d bytes, error %d; not %d bytes, error %d, as it should be", count, b.N, what, len(s), e, len(want), wantE)
	}
}

// lengthsOf are NumSymbols lengths, those of some symbols being told.
func lengthsOf(known map[int]int) []int {
	l := make([]int, 258)
	for symbol, length := range known {
		l[symbol] = length
	}
	return l
}

// 23.2, 23.5: what was encoded is decoded, whatever stands ahead of it and behind it.
func TestDecode(t *testing.T) {
	for _, row := range rows() {
		for _, s := range segments() {
			one, behind := told(row, s)
			for ahead := range 9 {
				for _, rest := range []string{"", "0", "1", "0110", "111111111"} {
					want := api.Coded{Text: s, Row: behind, At: ahead + len(one)}
					isDecode(t, "encoded", bitsOf(some(ahead, 5)+one+rest), ahead, row, want, api.OK)
				}
			}
			b, _, _ := segs.Encode(bitsOf("101"), row, s)
			isDecode(t, "encoded", b, 3, row, api.Coded{Text: s, Row: behind, At: b.N}, api.OK)
		}
	}
}

// 23.2: a segment is decoded by any row: its bytes are others then.
func TestDecodeOtherRow(t *testing.T) {
	one, _ := told(fresh(), "banana")
	for _, row := range rows() {
		far, _ := moved(fresh(), "banana")
		text, behind := unmoved(row, far)
		isDecode(t, "another row", bitsOf(one), 0, row, api.Coded{Text: text, Row: behind, At: len(one)}, api.OK)
	}
}

// 23.2, P2: bits that are not right are told ahead of a row that is none, that ahead of a place that is none, and that ahead of what stands there.
func TestDecodeFirst(t *testing.T) {
	one, _ := told(fresh(), "banana")
	places := []int{-1, 0, 1, len(one), len(one) + 1, math.MaxInt, math.MinInt}
	for _, at := range places {
		for _, b := range wrongBits() {
			for _, row := range append(wrongRows(), fresh()) {
				isDecode(t, "wrong bits", b, at, row, api.Coded{}, api.ErrForm)
			}
		}
		for _, row := range wrongRows() {
			for _, s := range []string{"", "1", "1111111", one} {
				isDecode(t, "a wrong row", bitsOf(s), at, row, api.Coded{}, api.ErrForm)
			}
		}
	}
	for _, s := range []string{"", "1", "1111111", one} {
		for _, at := range []int{-1, -9, len(s) + 1, len(s) + 8, math.MaxInt, math.MinInt} {
			isDecode(t, "no place", bitsOf(s), at, fresh(), api.Coded{}, api.ErrRange)
		}
		isDecode(t, "the end", bitsOf(s), len(s), fresh(), api.Coded{}, api.ErrShort)
	}
}

// 23.2: wherever bits end, in the lengths or among the symbols, that is told.
func TestDecodeShort(t *testing.T) {
	for _, s := range []string{"a", "aaaa", "banana", strings.Repeat("\x00", api.SegSize), letters(300, 40)} {
		one, _ := told(fresh(), s)
		for long := range one {
			isDecode(t, "its beginning", bitsOf(one[:long]), 0, fresh(), api.Coded{}, api.ErrShort)
			isDecode(t, "its beginning", bitsOf("110"+one[:long]), 3, fresh(), api.Coded{}, api.ErrShort)
		}
	}
}

// 23.2: lengths whose bits lead nowhere, or that are not right.
func TestDecodeTable(t *testing.T) {
	for what, s := range map[string]string{
		"below 0":         "0000" + "0" + "11" + strings.Repeat("0", 300),
		"above MaxLength": "1111" + "0" + "10" + strings.Repeat("0", 300),
		"up and down":     "0001" + "0" + "1011" + strings.Repeat("0", 300),
		"not the first":   "0001" + "100" + strings.Repeat("0", 300),
		"too many":        "0001" + strings.Repeat("0", 400),
		"too few":         "0010" + "0" + "11110" + strings.Repeat("0", 400),
	} {
		isDecode(t, what, bitsOf(s), 0, fresh(), api.Coded{}, api.ErrCode)
	}
}

// 23.2: lengths that are right, and have codes for all symbols, but are not those of the segment: that is told at the end, not ahead of it.
func TestDecodeLengths(t *testing.T) {
	l := []uint64{98, 0, 0, 257}
	for what, own := range map[string][]int{
		"longer ones":          lengthsOf(map[int]int{0: 2, 98: 2, 257: 2, 1: 2}),
		"others exchanged":     lengthsOf(map[int]int{0: 2, 98: 1, 257: 2}),
		"the end's shortest":   lengthsOf(map[int]int{0: 2, 98: 2, 257: 1}),
		"one that is not used": lengthsOf(map[int]int{0: 1, 98: 2, 257: 3, 99: 3}),
		"many not used":        append(slices.Repeat([]int{8}, 254), 9, 9, 9, 9),
		"the longest":          lengthsOf(map[int]int{0: 1, 98: 2, 257: 3, 2: 4, 3: 5, 4: 6, 5: 7, 6: 8, 7: 9, 8: 10, 9: 11, 10: 12, 11: 13, 12: 14, 13: 15, 14: 15}),
	} {
		s := coded(own, l)
		isDecode(t, what, bitsOf(s), 0, fresh(), api.Coded{}, api.ErrCode)
		isDecode(t, what, bitsOf(s+"0110"), 0, fresh(), api.Coded{}, api.ErrCode)
		isDecode(t, what, bitsOf(s[:len(s)-1]), 0, fresh(), api.Coded{}, api.ErrShort)
	}
	far, _ := moved(fresh(), "aaaa")
	if own := lengths(symbols(far)); !slices.Equal(own, lengthsOf(map[int]int{0: 1, 98: 2, 257: 2})) {
		t.Errorf("its own are %v", own)
	}
}

// 23.2: what is no code, where there is one alone, or none.
func TestDecodeNoCode(t *testing.T) {
	alone := table(lengthsOf(map[int]int{5: 1}))
	end := table(lengthsOf(map[int]int{257: 1}))
	none := table(lengthsOf(nil))
	for _, c := range []struct {
		s    string
		want api.Errno
	}{
		{alone, api.ErrShort}, {alone + "0", api.ErrShort}, {alone + "000", api.ErrShort}, {alone + "1", api.ErrCode}, {alone + "0001", api.ErrCode},
		{alone + strings.Repeat("0", 512), api.ErrShort}, {alone + strings.Repeat("0", 513), api.ErrCode}, {alone + strings.Repeat("0", 512) + "1", api.ErrCode},
		{end, api.ErrShort}, {end + "0", api.ErrCode}, {end + "1", api.ErrCode},
		{none, api.ErrCode}, {none + "0", api.ErrCode}, {none + "1", api.ErrCode},
	} {
		isDecode(t, "no code", bitsOf(c.s), 0, fresh(), api.Coded{}, c.want)
	}
}

// 23.2: an end with no bytes ahead of it.
func TestDecodeNoBytes(t *testing.T) {
	for what, own := range map[string][]int{
		"two codes":   lengthsOf(map[int]int{5: 1, 257: 1}),
		"the example": lengthsOf(map[int]int{0: 1, 98: 2, 257: 2}),
		"all":         append(slices.Repeat([]int{8}, 254), 9, 9, 9, 9),
	} {
		isDecode(t, what, bitsOf(coded(own, []uint64{257})), 0, fresh(), api.Coded{}, api.ErrCode)
		isDecode(t, what, bitsOf(coded(own, []uint64{257})+"010"), 0, fresh(), api.Coded{}, api.ErrCode)
	}
}

// 23.2: more than SegSize bytes: of a run it is told when it ends, by a byte or by the end, so that bits that end ahead of that are too short; of a byte at once.
func TestDecodeMuch(t *testing.T) {
	own := lengthsOf(map[int]int{0: 2, 1: 2, 9: 2, 257: 2})
	most, more := counted(api.SegSize), counted(api.SegSize+1)
	many := slices.Repeat([]uint64{9}, api.SegSize)
	for what, c := range map[string]struct {
		symbols []uint64
		want    api.Errno
	}{
		"as many, by a run":                    {most, api.ErrShort},
		"as many, by bytes":                    {many, api.ErrShort},
		"a run and a byte":                     {append(slices.Clone(most), 9), api.ErrCode},
		"too long a run":                       {more, api.ErrShort},
		"too long a run, and a byte":           {append(slices.Clone(more), 9), api.ErrCode},
		"too long a run, and the end":          {append(slices.Clone(more), 257), api.ErrCode},
		"too many bytes":                       {append(slices.Clone(many), 9), api.ErrCode},
		"as many bytes, and a run":             {append(slices.Clone(many), 0), api.ErrShort},
		"as many bytes, and a long run":        {append(slices.Clone(many), 1, 1, 1), api.ErrShort},
		"as many bytes, a run and the end":     {append(slices.Clone(many), 0, 257), api.ErrCode},
		"as many bytes, a run and a byte":      {append(slices.Clone(many), 0, 9), api.ErrCode},
		"a byte and as long a run":             {append([]uint64{9}, most...), api.ErrShort},
		"a byte, as long a run and the end":    {append(append([]uint64{9}, most...), 257), api.ErrCode},
		"64 digits":                            {slices.Repeat([]uint64{1}, 64), api.ErrShort},
		"64 digits and the end":                {append(slices.Repeat([]uint64{1}, 64), 257), api.ErrCode},
		"64 digits that are none, and the end": {append(slices.Repeat([]uint64{0}, 64), 257), api.ErrCode},
		"very many digits":                     {slices.Repeat([]uint64{0}, 9000), api.ErrShort},
		"very many digits and a byte":          {append(slices.Repeat([]uint64{0}, 9000), 9), api.ErrCode},
	} {
		isDecode(t, what, bitsOf(coded(own, c.symbols)), 0, fresh(), api.Coded{}, c.want)
	}
	for _, l := range [][]uint64{append(slices.Clone(most), 257), append(append([]uint64{9}, counted(api.SegSize-1)...), 257), append(append(counted(api.SegSize-1), 9), 257)} {
		s := coded(lengths(l), l)
		if c, e := segs.Decode(bitsOf(s), 0, fresh()); e != api.OK || len(c.Text) != api.SegSize || c.At != len(s) {
			t.Fatalf("as many as may be: error %d, %d bytes", e, len(c.Text))
		}
	}
}

// 23.2: as many digits as there are bits.
func TestDecodeMost(t *testing.T) {
	own := lengthsOf(map[int]int{0: 1, 9: 2, 257: 2})
	s := table(own)
	run := strings.Repeat("0", api.MaxBits-len(s)-2)
	isDecode(t, "a run", bitsOf(s+run+"00"), 0, fresh(), api.Coded{}, api.ErrShort)
	isDecode(t, "a run and a byte", bitsOf(s+run+"10"), 0, fresh(), api.Coded{}, api.ErrCode)
	isDecode(t, "a run and the end", bitsOf(s+run+"11"), 0, fresh(), api.Coded{}, api.ErrCode)
}

// 23.2, 23.5: segments of which any bit is another are read by the words of chapter 23, and have the bits of what they are.
func TestDecodeTurned(t *testing.T) {
	right := 0
	for _, text := range []string{"a", "aaaa", "banana", letters(60, 5), letters(90, 256)} {
		one, _ := told(fresh(), text)
		for i := range one {
			other := "0"
			if one[i] == '0' {
				other = "1"
			}
			s := one[:i] + other + one[i+1:] + "0110100"
			isRead(t, "turned", s, 0, fresh())
			if c, e := segs.Decode(bitsOf(s), 0, fresh()); e == api.OK {
				right++
				isEncode(t, api.Bitstr{}, fresh(), c.Text, bitsOf(s[:c.At]), c.Row, api.OK)
			}
		}
	}
	if right == 0 {
		t.Error("none was a segment")
	}
}

// 23.2, 23.5: any symbols, by their own lengths and by others, with any many bits.
func TestDecodeAny(t *testing.T) {
	r := rand.New(rand.NewPCG(23, 25))
	right := 0
	for range 2000 {
		l, of := []uint64{}, 1+r.IntN(9)
		for range r.IntN(20) {
			l = append(l, []uint64{0, 1, 98, 2, 256, 5, 6, 7, 8}[r.IntN(of)])
		}
		l = append(l, 257)
		own := lengths(l)
		if r.IntN(4) == 0 {
			own = lengths(append(slices.Clone(l), uint64(r.IntN(258))))
		}
		s := coded(own, l) + some(r.IntN(9), 7)
		if r.IntN(4) == 0 {
			s = s[:r.IntN(len(s)+1)]
		}
		isRead(t, "any symbols", s, 0, fresh())
		if c, e := segs.Decode(bitsOf(s), 0, fresh()); e == api.OK {
			right++
			isEncode(t, api.Bitstr{}, fresh(), c.Text, bitsOf(s[:c.At]), c.Row, api.OK)
		}
	}
	if right < 500 {
		t.Errorf("only %d were right", right)
	}
}

// 23.3, P2: bits that are not right are told ahead of counts that are none, and these ahead of what stands there.
func TestBackFirst(t *testing.T) {
	one, _ := told(fresh(), "banana")
	for _, count := range []int{-1, 0, 1, api.MaxText, api.MaxText + 1, math.MaxInt, math.MinInt} {
		for _, b := range wrongBits() {
			isBack(t, "wrong bits", b, count, "", api.ErrForm)
		}
	}
	for _, count := range []int{-1, -2, math.MinInt, api.MaxText + 1, api.MaxText + 2, math.MaxInt} {
		for _, s := range []string{"", "0", "1111111", one} {
			isBack(t, "no count", bitsOf(s), count, "", api.ErrRange)
		}
	}
}

// 23.3: as many segments as there are; with fewer there are bits left, with more the last one, or the bits behind it, are none.
func TestBackCount(t *testing.T) {
	isBack(t, "no bits", api.Bitstr{}, 0, "", api.OK)
	for _, count := range []int{1, 2, 128, api.MaxText} {
		isBack(t, "no bits", api.Bitstr{}, count, "", api.ErrShort)
	}
	for _, s := range []string{"0", "1", "0000000", some(500, 8)} {
		isBack(t, "bits", bitsOf(s), 0, "", api.ErrCode)
	}
	for _, many := range []int{1, 6, api.SegSize, api.SegSize + 1, 2 * api.SegSize, 3*api.SegSize - 1} {
		text := letters(many, 20)
		s, count := whole(text)
		for n := range count {
			isBack(t, "fewer", bitsOf(s), n, "", api.ErrCode)
		}
		isBack(t, "all", bitsOf(s), count, text, api.OK)
		want := api.ErrCode
		if many%api.SegSize == 0 {
			want = api.ErrShort
		}
		for _, n := range []int{count + 1, count + 2, 128, api.MaxText} {
			isBack(t, "more", bitsOf(s), n, "", want)
		}
		for _, rest := range []string{"0", "1", "0000", "11111111"} {
			isBack(t, "bits behind", bitsOf(s+rest), count, "", api.ErrCode)
		}
		for _, long := range []int{len(s) - 1, len(s) / 2, 3} {
			want, wantE := back(s[:long], count)
			isBack(t, "its beginning", bitsOf(s[:long]), count, want, wantE)
		}
	}
}

// 23.3: a segment ahead of the last one has SegSize bytes, whatever stands behind it; the last one has any many.
func TestBackShorter(t *testing.T) {
	text := letters(2*api.SegSize, 30)
	for _, many := range []int{1, 100, api.SegSize - 1, api.SegSize} {
		one, row := told(fresh(), text[:many])
		other, next := told(row, text[many:many+9])
		last, _ := told(next, "abc")
		want, wantE := "", api.ErrCode
		if many == api.SegSize {
			want, wantE = text[:many+9], api.OK
		}
		isBack(t, "two", bitsOf(one+other), 2, want, wantE)
		isBack(t, "three", bitsOf(one+other+last), 3, "", api.ErrCode)
		for _, rest := range []string{"", "0", "000000", "1111111", strings.Repeat("1", 300)} {
			_, wantE := back(one+rest, 2)
			isBack(t, "a wrong one behind", bitsOf(one+rest), 2, "", wantE)
		}
	}
}

// 23.3: no more than MaxText bytes together, be it told by the last one, or by one ahead of it; what is wrong with that one itself is told first.
func TestBackMuch(t *testing.T) {
	text := strings.Repeat("\x00", api.MaxText)
	s, count := whole(text)
	row := fresh()
	for _, more := range []string{"\x00", "a", letters(api.SegSize, 3)} {
		one, behind := told(row, more)
		other, _ := told(behind, more)
		isBack(t, "one more", bitsOf(s+one), count+1, "", api.ErrCode)
		isBack(t, "one more, and bits behind", bitsOf(s+one+"0110"), count+1, "", api.ErrCode)
		isBack(t, "one more, and none", bitsOf(s+one), count+2, "", api.ErrCode)
		isBack(t, "two more", bitsOf(s+one+other), count+2, "", api.ErrCode)
		isBack(t, "one more, too short", bitsOf(s+one[:len(one)-1]), count+1, "", api.ErrShort)
		isBack(t, "one more, too short", bitsOf(s+one[:len(one)-1]), count+2, "", api.ErrShort)
	}
	isBack(t, "all", bitsOf(s), count, text, api.OK)
}

// 23.3: texts of which any bit is another are read by the words of chapter 23.
func TestBackTurned(t *testing.T) {
	s, count := whole(strings.Repeat("\x01\x00\x00\x00", 128) + strings.Repeat("\x01\x00\x00\x00", 128) + "ab")
	for i := range s {
		other := "0"
		if s[i] == '0' {
			other = "1"
		}
		turned := s[:i] + other + s[i+1:]
		for n := count - 1; n <= count+1; n++ {
			want, wantE := back(turned, n)
			isBack(t, "turned", bitsOf(turned), n, want, wantE)
		}
	}
}
