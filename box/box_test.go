package box_test

import (
	"math"
	"math/rand/v2"
	"runtime"
	"strings"
	"testing"
	"unsafe"

	"wringer/api"
	"wringer/box"
	"wringer/order"
	"wringer/segs"
)

// isBuild holds what Build tells against what it should.
func isBuild(t *testing.T, text, want string, wantE api.Errno) {
	t.Helper()
	if s, e := box.Build(text); s != want || e != wantE {
		t.Fatalf("Build of %d bytes, %.30q: %d bytes, error %d; not %d bytes, error %d, as it should be", len(text), text, len(s), e, len(want), wantE)
	}
}

// isOpen holds what Open tells against what it should.
func isOpen(t *testing.T, what, s, want string, wantE api.Errno) {
	t.Helper()
	if text, e := box.Open(s); text != want || e != wantE {
		t.Fatalf("Open of %d bytes, %s: %d bytes, error %d; not %d bytes, error %d, as it should be", len(s), what, len(text), e, len(want), wantE)
	}
}

// isHead holds what Head tells against what it should.
func isHead(t *testing.T, what, s string, want api.Head, wantE api.Errno) {
	t.Helper()
	if h, e := box.Head(s); h != want || e != wantE {
		t.Fatalf("Head of %d bytes, %s: %v, error %d; not %v, error %d, as it should be", len(s), what, h, e, want, wantE)
	}
}

// isParts holds what Parts tells against what it should.
func isParts(t *testing.T, what, s string, want api.Head, wantB api.Bitstr, wantE api.Errno) {
	t.Helper()
	if h, b, e := box.Parts(s); h != want || b != wantB || e != wantE {
		t.Fatalf("Parts of %d bytes, %s: %v, %d bits, error %d; not %v, %d bits, error %d, as it should be", len(s), what, h, b.N, e, want, wantB.N, wantE)
	}
}

// isSeal holds what Seal tells against what it should.
func isSeal(t *testing.T, what string, h api.Head, b api.Bitstr, want string, wantE api.Errno) {
	t.Helper()
	if s, e := box.Seal(h, b); s != want || e != wantE {
		t.Fatalf("Seal of %v and %d bits, %s: %d bytes, error %d; not %d bytes, error %d, as it should be", h, b.N, what, len(s), e, len(want), wantE)
	}
}

// isNone holds that bytes are told to be no container by all that read one.
func isNone(t *testing.T, what, s string, want api.Errno) {
	t.Helper()
	isHead(t, what, s, api.Head{}, want)
	isParts(t, what, s, api.Head{}, api.Bitstr{}, want)
	isOpen(t, what, s, "", want)
}

// The example, and banana: the column annbaa, the primary 4.
func TestExample(t *testing.T) {
	empty := summed("WRG\x01" + strings.Repeat("\x00", 24))
	if len(empty) != 32 {
		t.Fatalf("%d bytes", len(empty))
	}
	isBuild(t, "", empty, api.OK)
	isOpen(t, "empty", empty, "", api.OK)
	isHead(t, "empty", empty, api.Head{}, api.OK)
	b, count, _ := segs.All("annbaa")
	zero := "\x00\x00\x00\x00"
	isBuild(t, "banana", summed("WRG\x01"+zero+"\x06"+zero+"\x04"+"\xcf\x67\x8b\x03"+zero+"\x01"+"\x00\x00\x00"+string([]byte{byte(b.N >> 8), byte(b.N)})+b.B), api.OK)
	if count != 1 || b.N>>16 > 0 || sumOf("banana") != 0x038b67cf {
		t.Errorf("%d segments, %d bits, the sum %x", count, b.N, sumOf("banana"))
	}
}

// 24.1, 24.2, 24.4, P5, P6: a text's container, its text again, its head and its bits, and the container of these.
func TestThereAndBack(t *testing.T) {
	for _, text := range texts() {
		h, b := told(text)
		s := sealed(h, b.B)
		isBuild(t, text, s, api.OK)
		isOpen(t, "built", s, text, api.OK)
		isHead(t, "built", s, h, api.OK)
		isParts(t, "built", s, h, b, api.OK)
		isSeal(t, "built", h, b, s, api.OK)
	}
}

// 24.1, P2: more than MaxPlain bytes are out of range.
func TestBuildRange(t *testing.T) {
	for _, many := range []int{api.MaxPlain + 1, api.MaxPlain + 2, api.MaxText, api.MaxText + 1, 1 << 20} {
		isBuild(t, letters(many, 1), "", api.ErrRange)
		isBuild(t, letters(many, 256), "", api.ErrRange)
	}
}

// heads are some whose numbers go together with nothing.
func heads(bits int) []api.Head {
	l := []api.Head{}
	for _, n := range []uint64{0, 1, 255, 256, 1 << 16, 1 << 32, api.MaxNum - 1} {
		for _, sum := range []uint32{0, 1, 1 << 8, 1 << 31, math.MaxUint32} {
			l = append(l, api.Head{Count: n, Sum: sum}, api.Head{Primary: n, Sum: sum}, api.Head{Segs: n, Sum: sum}, api.Head{Count: n, Primary: n / 2, Segs: n / 3, Sum: sum})
		}
	}
	for i := range l {
		l[i].Bits = uint64(bits)
	}
	return l
}

// 24.1, 24.2: parts that do not go together are sealed, and told again.
func TestSeal(t *testing.T) {
	for _, n := range []int{0, 1, 7, 8, 9, 100, 4097} {
		b := someBits(n)
		for _, h := range heads(n) {
			s := sealed(h, b.B)
			isSeal(t, "any", h, b, s, api.OK)
			isHead(t, "any", s, h, api.OK)
			isParts(t, "any", s, h, b, api.OK)
		}
	}
}

// wrongBits are bits made by hand that are not right.
func wrongBits() []api.Bitstr {
	return []api.Bitstr{{N: 1}, {N: -1}, {B: "\x00", N: 0}, {B: "\x11", N: 7}, {B: "\x14", N: 5}, {N: math.MaxInt}, {N: math.MinInt}, {B: string(make([]byte, api.MaxBits/8+1)), N: api.MaxBits + 1}}
}

// wrongHeads are heads, for so many bits, of which a number is none, or Bits are not as many.
func wrongHeads(bits int) []api.Head {
	n := uint64(bits)
	l := []api.Head{{Bits: n + 1}, {Bits: n + 7}, {Bits: n + 8}, {Bits: n + 1<<32}, {Bits: n - 1}, {Bits: api.MaxNum - 1}}
	for _, none := range []uint64{api.MaxNum, api.MaxNum + 1, 1 << 48, math.MaxUint64} {
		l = append(l, api.Head{Count: none, Bits: n}, api.Head{Primary: none, Bits: n}, api.Head{Segs: none, Bits: n}, api.Head{Bits: none}, api.Head{Bits: none + n})
	}
	return l
}

// 24.1, P2: what is wrong with bits is told ahead of numbers that are none, and these ahead of too many bytes.
func TestSealWrong(t *testing.T) {
	for _, b := range wrongBits() {
		for _, h := range append(wrongHeads(b.N), api.Head{}, api.Head{Bits: 1}, api.Head{Bits: uint64(b.N)}) {
			isSeal(t, "wrong bits", h, b, "", api.ErrForm)
		}
	}
	for _, n := range []int{0, 1, 8, 100, (api.MaxBox - 32) * 8, (api.MaxBox-32)*8 + 1, api.MaxBits} {
		b := someBits(n)
		for _, h := range wrongHeads(n) {
			isSeal(t, "a wrong head", h, b, "", api.ErrRange)
		}
	}
}

// 24.1, 24.2: up to MaxBox bytes there is room.
func TestSealFull(t *testing.T) {
	most := (api.MaxBox - 32) * 8
	for _, n := range []int{most - 8, most - 7, most - 1, most} {
		b := someBits(n)
		for _, h := range heads(n)[:8] {
			s := sealed(h, b.B)
			if len(s) > api.MaxBox {
				t.Fatalf("%d bytes", len(s))
			}
			isSeal(t, "almost full", h, b, s, api.OK)
			isHead(t, "almost full", s, h, api.OK)
			isParts(t, "almost full", s, h, b, api.OK)
		}
	}
	for _, n := range []int{most + 1, most + 8, most + 9, api.MaxBits} {
		for _, h := range heads(n)[:8] {
			isSeal(t, "too many", h, someBits(n), "", api.ErrFull)
		}
	}
}

// 24.2, P2: fewer bytes than 32, more than MaxBox, another beginning, another sum: of several the first one.
func TestNone(t *testing.T) {
	h, b := told("banana")
	s := sealed(h, b.B)
	for long := range 32 {
		for _, short := range []string{s[:long], letters(long, 256), strings.Repeat("\x00", long)} {
			isNone(t, "too short", short, api.ErrShort)
		}
		if long >= 8 {
			isNone(t, "too short, its sum right", summed(s[:long-4]), api.ErrShort)
		}
	}
	for long := 32; long < len(s); long++ {
		isNone(t, "cut", s[:long], api.ErrSum)
		isNone(t, "another beginning", s[1:]+strings.Repeat("x", 9), api.ErrForm)
	}
	for _, more := range []string{"x", "\x00", "\xff", s, strings.Repeat("\x00", 1000)} {
		isNone(t, "more behind", s+more, api.ErrSum)
	}
	for _, long := range []int{api.MaxBox + 1, api.MaxBox + 4, api.MaxBox + 5, 2 * api.MaxBox} {
		zero := strings.Repeat("\x00", long-len(s))
		isNone(t, "too long", s+zero, api.ErrRange)
		isNone(t, "too long, its sum right", sealed(api.Head{Bits: uint64(long-32) * 8}, someBits((long-32)*8).B), api.ErrRange)
		isNone(t, "too long, another beginning", zero+s, api.ErrRange)
	}
	isNone(t, "as long as may be", s+strings.Repeat("\x00", api.MaxBox-len(s)), api.ErrSum)
	for _, begins := range []string{"WRG\x00", "WRG\x02", "WRH\x01", "VRG\x01", "wrg\x01", "GRW\x01", "\x01GRW", "\x00\x00\x00\x00", "WRG1"} {
		isNone(t, "another beginning", begins+s[4:], api.ErrForm)
		isNone(t, "another beginning, its sum right", again(begins+s[4:]), api.ErrForm)
	}
	for i := range 4 {
		sum := []byte(s)
		sum[len(s)-4+i]++
		isNone(t, "another sum", string(sum), api.ErrSum)
	}
	end := len(s) - 4
	isNone(t, "its sum turned around", s[:end]+string([]byte{s[end+3], s[end+2], s[end+1], s[end]}), api.ErrSum)
}

// 24.5: with one byte another, whichever it is, it is none.
func TestTurned(t *testing.T) {
	for _, text := range []string{"", "banana", letters(60, 5)} {
		h, b := told(text)
		s := []byte(sealed(h, b.B))
		for i, c := range s {
			want := api.ErrSum
			if i < 4 {
				want = api.ErrForm
			}
			for more := 1; more < 256; more += 1 + i%7 {
				s[i] = c + byte(more)
				isNone(t, "turned", string(s), want)
			}
			s[i] = c
		}
		isOpen(t, "as it was", string(s), text, api.OK)
	}
}

// 24.2, P2: as many bytes as Bits say, and no bits behind the last one, with the sum made right again; the head is told all the same.
func TestPartsWrong(t *testing.T) {
	for _, text := range []string{"", "a", "banana", letters(600, 20)} {
		h, b := told(text)
		for _, more := range []string{"\x00", "x", "\x00\x00", strings.Repeat("\xff", 100)} {
			s := sealed(h, b.B+more)
			isHead(t, "more bytes", s, h, api.OK)
			isParts(t, "more bytes", s, api.Head{}, api.Bitstr{}, api.ErrForm)
			isOpen(t, "more bytes", s, "", api.ErrForm)
		}
		for long := range len(b.B) {
			s := sealed(h, b.B[:long])
			isParts(t, "fewer bytes", s, api.Head{}, api.Bitstr{}, api.ErrForm)
			isOpen(t, "fewer bytes", s, "", api.ErrForm)
		}
		whole := len(b.B) * 8
		for _, n := range []int{whole - 8, whole + 1, whole + 8, whole + 1<<32, 1 << 39, api.MaxNum - 1, api.MaxNum - 8} {
			other := h
			if other.Bits = uint64(n); n < 0 {
				continue
			}
			s := sealed(other, b.B)
			isHead(t, "other Bits", s, other, api.OK)
			isParts(t, "other Bits", s, api.Head{}, api.Bitstr{}, api.ErrForm)
			isOpen(t, "other Bits", s, "", api.ErrForm)
		}
	}
	for n := 1; n < 8; n++ {
		for behind := n; behind < 8; behind++ {
			h, bytes := api.Head{Bits: uint64(8 + n)}, "\xa5"+string([]byte{128 >> behind})
			isHead(t, "bits behind", sealed(h, bytes), h, api.OK)
			isParts(t, "bits behind", sealed(h, bytes), api.Head{}, api.Bitstr{}, api.ErrForm)
			isOpen(t, "bits behind", sealed(h, bytes), "", api.ErrForm)
		}
	}
}

// 24.2, P7: a head of which one number is another than the text's, with the sum made right again.
func TestOpenOther(t *testing.T) {
	for _, text := range []string{"", "a", "banana", letters(600, 20), letters(api.MaxPlain, 256)} {
		h, b := told(text)
		large := []uint64{api.MaxText, api.MaxText + 1, 1 << 32, 1<<32 + h.Primary, 1<<32 + h.Segs, api.MaxNum - 1}
		for _, n := range append(large, 0, 1, h.Count-1, h.Count+1, h.Count+1<<32) {
			other := h
			if other.Count = n; n < api.MaxNum && n != h.Count {
				isOpen(t, "another Count", sealed(other, b.B), "", api.ErrCode)
			}
			other = h
			if other.Segs = n; n < api.MaxNum && n != h.Segs {
				_, want := segs.Back(b, int(n))
				isOpen(t, "other Segs", sealed(other, b.B), "", want)
			}
		}
		for _, n := range large {
			other := h
			other.Primary = n
			isOpen(t, "another Primary", sealed(other, b.B), "", api.ErrCode)
		}
		for _, sum := range []uint32{0, h.Sum + 1, h.Sum - 1, ^h.Sum, h.Sum ^ 1<<31} {
			other := h
			if other.Sum = sum; sum == h.Sum {
				continue
			}
			isOpen(t, "another Sum", sealed(other, b.B), "", api.ErrSum)
		}
	}
}

// 24.2, 24.4: each column of few letters, with each primary: where there is a text, its sum is what is asked, and the container is the one that is built of it.
func TestOpenColumns(t *testing.T) {
	right := 0
	for many := range 6 {
		for number := range 1 << (2 * many) {
			bytes := make([]byte, many)
			for i := range bytes {
				bytes[i] = 'a' + byte(number>>(2*i)&3)
			}
			for primary := range many + 2 {
				text, e := order.Text(string(bytes), primary)
				h, b := head(string(bytes), primary, sumOf(text))
				s := sealed(h, b.B)
				isOpen(t, "a column", s, text, e)
				if e == api.OK {
					right++
					isBuild(t, text, s, api.OK)
				}
			}
		}
	}
	if want := 1 + 4 + 16 + 64 + 256 + 1024; right != want {
		t.Errorf("%d were right, not %d", right, want)
	}
}

// 24.2: what is wrong with segments is told ahead of Count, that ahead of what is wrong with the column, and that ahead of the text's sum.
func TestOpenFirst(t *testing.T) {
	h, b := head("ab", 1, 7)
	if _, e := order.Text("ab", 1); e != api.ErrCode {
		t.Fatalf("error %d", e)
	}
	isOpen(t, "no text, another sum", sealed(h, b.B), "", api.ErrCode)
	h.Count = 3
	isOpen(t, "another Count", sealed(h, b.B), "", api.ErrCode)
	h.Segs = api.MaxText + 1
	isOpen(t, "too many Segs, another Count", sealed(h, b.B), "", api.ErrRange)
	for _, many := range []int{api.MaxPlain + 1, 2 * api.MaxPlain, api.MaxText / 2} {
		long, primary := letters(many, 3), 5
		h, b = head(long, primary, 7)
		isOpen(t, "more than MaxPlain", sealed(h, b.B), "", api.ErrRange)
		h.Primary = api.MaxNum - 1
		isOpen(t, "more than MaxPlain, no primary", sealed(h, b.B), "", api.ErrRange)
		h.Count--
		isOpen(t, "more than MaxPlain, another Count", sealed(h, b.B), "", api.ErrCode)
		h.Segs = api.MaxText + 1
		isOpen(t, "more than MaxPlain, too many Segs", sealed(h, b.B), "", api.ErrRange)
	}
	h, b = told("banana")
	h.Segs, h.Count, h.Primary = 2, 9, 99
	isOpen(t, "more Segs than there are", sealed(h, b.B), "", api.ErrCode)
	h.Segs = 0
	isOpen(t, "fewer Segs than there are", sealed(h, b.B), "", api.ErrCode)
	h, b = told(letters(api.SegSize, 9))
	h.Segs, h.Count = 2, 9
	isOpen(t, "more Segs than there are, a whole one ahead", sealed(h, b.B), "", api.ErrShort)
}

// 24.2: segments that are not those of a column by SegSize bytes each, or have bits behind, are none.
func TestOpenSegments(t *testing.T) {
	one, row, _ := segs.Encode(api.Bitstr{}, rise(), "ann")
	two, _, _ := segs.Encode(one, row, "baa")
	h := api.Head{Count: 6, Primary: 4, Sum: sumOf("banana"), Segs: 2, Bits: uint64(two.N)}
	isOpen(t, "two short ones", sealed(h, two.B), "", api.ErrCode)
	right, b := told("banana")
	isOpen(t, "one", sealed(right, b.B), "banana", api.OK)
	more := right
	more.Bits = uint64(len(b.B)*8 + 8)
	isOpen(t, "bits behind", sealed(more, b.B+"\x00"), "", api.ErrCode)
	for n := b.N + 1; n <= len(b.B)*8; n++ {
		more.Bits = uint64(n)
		isOpen(t, "bits behind", sealed(more, b.B), "", api.ErrCode)
	}
	fewer := right
	for n := range b.N {
		short := someCut(b, n)
		fewer.Bits = uint64(n)
		isOpen(t, "its beginning", sealed(fewer, short), "", api.ErrShort)
	}
}

// rise is the row of the bytes as they rise.
func rise() string {
	row := []byte{}
	for c := range 256 {
		row = append(row, byte(c))
	}
	return string(row)
}

// someCut are the bytes of the first n bits.
func someCut(b api.Bitstr, n int) string {
	bytes := []byte(b.B[:(n+7)/8])
	if n%8 > 0 {
		bytes[n/8] &= ^(255 >> (n % 8))
	}
	return string(bytes)
}

// 24.4, P7: containers of which any bytes are others, with the sum made right again: what is opened is what is built of it, and has the head's length and sum.
func TestOpenAny(t *testing.T) {
	r := rand.New(rand.NewPCG(24, 4))
	right := 0
	for i := range 4000 {
		text := letters(r.IntN(40), 1+r.IntN(4))
		h, b := told(text)
		s := []byte(sealed(h, b.B))
		for range r.IntN(3) {
			s[4+r.IntN(len(s)-8)] ^= 1 << r.IntN(8)
		}
		if i%2 == 0 {
			// Another primary, with the sum of the text that it is then of.
			bytes, _ := column(text)
			primary := r.IntN(len(text) + 1)
			other, _ := order.Text(bytes, primary)
			h, b = head(bytes, primary, sumOf(other))
			s = []byte(sealed(h, b.B))
		}
		got, e := box.Open(again(string(s)))
		if e != api.OK {
			if got != "" {
				t.Fatalf("error %d, and %q", e, got)
			}
			continue
		}
		right++
		known, f := box.Head(again(string(s)))
		if f != api.OK || known.Count != uint64(len(got)) || known.Sum != sumOf(got) {
			t.Fatalf("%q has the head %v, error %d", got, known, f)
		}
		isBuild(t, got, again(string(s)), api.OK)
	}
	if right < 1000 {
		t.Errorf("only %d were right", right)
	}
}

// 24.3: what is answered is its own, and what is handed in stays as it is.
func TestNewMemory(t *testing.T) {
	text := strings.Repeat("a", 40)
	s, _ := box.Build(text)
	_, b, _ := box.Parts(s)
	_, c, _ := box.Parts(s)
	one, _ := box.Open(s)
	two, _ := box.Open(s)
	h, _ := box.Head(s)
	same, _ := box.Seal(h, b)
	other, _ := box.Build(text)
	if same != s || other != s || one != text || two != text || b != c {
		t.Errorf("%q, %q", one, two)
	}
	list := []string{text, s, b.B, c.B, one, two, same, other}
	for i, x := range list {
		for _, y := range list[:i] {
			from, to := uintptr(unsafe.Pointer(unsafe.StringData(x))), uintptr(unsafe.Pointer(unsafe.StringData(y)))
			if from < to+uintptr(len(y)) && to < from+uintptr(len(x)) {
				t.Fatalf("%q and %q share memory", x, y)
			}
		}
	}
}

// P1, P3, P4: whatever is handed in, each call answers the same twice, and leaves no goroutine.
func TestWhatever(t *testing.T) {
	before := runtime.NumGoroutine()
	r := rand.New(rand.NewPCG(24, 24))
	numbers := []uint64{0, 1, 6, 255, api.MaxText, api.MaxText + 1, 1 << 32, api.MaxNum - 1, api.MaxNum, math.MaxUint64}
	for range 3000 {
		pick := func() uint64 { return numbers[r.IntN(len(numbers))] }
		h := api.Head{Count: pick(), Primary: pick(), Sum: r.Uint32(), Segs: pick(), Bits: pick()}
		b := someBits(r.IntN(100))
		if r.IntN(3) > 0 {
			h.Bits = uint64(b.N)
		}
		if r.IntN(9) == 0 {
			b.N += r.IntN(20) - 10
		}
		one, e := box.Seal(h, b)
		other, f := box.Seal(h, b)
		if one != other || e != f {
			t.Fatalf("Seal of %v: error %d, and %d", h, e, f)
		}
		for _, s := range []string{one, letters(r.IntN(60), 256), summed("WRG\x01" + letters(r.IntN(60), 256)), summed("WRG\x01" + letters(r.IntN(60), 1))} {
			x, e := box.Open(s)
			y, f := box.Open(s)
			if x != y || e != f {
				t.Fatalf("Open of %q: error %d, and %d", s, e, f)
			}
			g, e := box.Head(s)
			k, c, f := box.Parts(s)
			m, d, i := box.Parts(s)
			if k != m || c != d || f != i || e != api.OK && f != e || f == api.OK && g != k {
				t.Fatalf("Head and Parts of %q: error %d, %d and %d", s, e, f, i)
			}
		}
		text := letters(r.IntN(50), 1+r.IntN(256))
		x, e := box.Build(text)
		y, f := box.Build(strings.Clone(text))
		if x != y || e != f {
			t.Fatalf("Build of %q: error %d, and %d", text, e, f)
		}
	}
	if after := runtime.NumGoroutine(); after > before {
		t.Errorf("%d goroutines, where %d were", after, before)
	}
}
