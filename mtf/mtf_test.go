package mtf_test

import (
	"bytes"
	"math/rand/v2"
	"runtime"
	"slices"
	"strings"
	"testing"
	"unsafe"

	"wringer/api"
	"wringer/mtf"
)

// fresh are the bytes as they rise.
func fresh() []byte {
	row := []byte{}
	for c := range 256 {
		row = append(row, byte(c))
	}
	return row
}

// anyRow makes a row, another one of each number.
func anyRow(number uint64) string {
	row := fresh()
	r := rand.New(rand.NewPCG(18, number))
	r.Shuffle(len(row), func(i, j int) { row[i], row[j] = row[j], row[i] })
	return string(row)
}

// some makes a text of so many bytes, of as many letters as are told, the same at each run.
func some(many, letters int) string {
	r := rand.New(rand.NewPCG(uint64(many), uint64(letters)))
	text := make([]byte, many)
	for i := range text {
		text[i] = byte(256 - letters + r.IntN(letters))
	}
	return string(text)
}

// moved tells the row with a byte moved to the front, by the words of chapter 18, and how far it was.
func moved(row string, c byte) (string, int) {
	ahead, behind, _ := strings.Cut(row, string([]byte{c}))
	return string([]byte{c}) + ahead + behind, len(ahead)
}

// rows are some that are right.
func rows() []string {
	falling := fresh()
	slices.Reverse(falling)
	return []string{string(fresh()), string(falling), anyRow(1), anyRow(2)}
}

// wrongRows are texts that are no rows.
func wrongRows() map[string]string {
	row := string(fresh())
	return map[string]string{
		"no bytes":                   "",
		"one byte":                   "x",
		"a byte less":                row[:255],
		"another byte less":          row[1:],
		"a byte more":                row + "\x00",
		"a row and a row":            row + row,
		"all alike":                  strings.Repeat("\x00", 256),
		"the first byte twice":       row[:255] + "\x00",
		"the last byte twice":        "\xff" + row[1:],
		"two alike in the midst":     row[:100] + "\x65" + row[101:],
		"a byte twice, and one more": row[:200] + row[199:],
	}
}

func TestExample(t *testing.T) {
	far, _, e := mtf.Move(mtf.Fresh(), "bb")
	if e != api.OK || far != string([]byte{98, 0}) {
		t.Errorf("Move: error %d, %q", e, far)
	}
}

// 18.1: the fresh row has the bytes as they rise; it is one, and so is each one that has them otherwise.
func TestFresh(t *testing.T) {
	if row := mtf.Fresh(); row != string(fresh()) {
		t.Fatalf("Fresh: %q", row)
	}
	for _, row := range rows() {
		if e := mtf.Check(row); e != api.OK {
			t.Errorf("Check of %q: error %d", row, e)
		}
	}
}

// 18.1, P2: what is no row is told ahead of all else, and beside it nothing.
func TestWrong(t *testing.T) {
	for what, row := range wrongRows() {
		if e := mtf.Check(row); e != api.ErrForm {
			t.Errorf("Check, %s: error %d", what, e)
		}
		for _, s := range []string{"", "x", some(api.MaxText, 256), some(api.MaxText+1, 256)} {
			for _, call := range []func(row, s string) (string, string, api.Errno){mtf.Move, mtf.Back} {
				if one, other, e := call(row, s); one != "" || other != "" || e != api.ErrForm {
					t.Errorf("%s: error %d, %q, %q", what, e, one, other)
				}
			}
		}
		for _, c := range []byte{0, 'x', 255} {
			if one, far, e := mtf.Front(row, c); one != "" || far != 0 || e != api.ErrForm {
				t.Errorf("Front, %s: error %d, %q, %d", what, e, one, far)
			}
		}
	}
}

// 18.1, 18.5: each byte of a row, be it at the front, at the end or between; moved again it is at 0.
func TestFront(t *testing.T) {
	for _, row := range rows() {
		for i := range len(row) {
			want, _ := moved(row, row[i])
			got, far, e := mtf.Front(row, row[i])
			if e != api.OK || far != i || got != want {
				t.Fatalf("Front of %q and %d: error %d, %d, %q", row, row[i], e, far, got)
			}
			again, far, e := mtf.Front(got, row[i])
			if e != api.OK || far != 0 || again != got {
				t.Fatalf("Front again: error %d, %d, %q", e, far, again)
			}
		}
	}
}

// texts are some of many sizes, up to MaxText bytes.
func texts() []string {
	l := []string{"", "\x00", "\xff", "ab", "\xff\xff\x00\x00", strings.Repeat("\x00", 300), strings.Repeat("\xff", 300), strings.Repeat("ab", 99), string(fresh()), strings.Repeat(string(fresh()), 3), "banana", "annbaa"}
	for _, many := range []int{1, 2, 3, 255, 256, 257, 1000, api.MaxText - 1, api.MaxText} {
		l = append(l, some(many, 1), some(many, 3), some(many, 256))
	}
	return l
}

// 18.2, 18.4, 18.5: how far each byte is when its turn comes, and the row behind all; and the text again, with the same row.
func TestMove(t *testing.T) {
	for _, row := range rows() {
		for _, s := range texts() {
			want, behind := []byte{}, row
			for i := range len(s) {
				var far int
				behind, far = moved(behind, s[i])
				want = append(want, byte(far))
				if i > 0 && s[i] == s[i-1] && far != 0 {
					t.Fatalf("a byte that is the one ahead of it is at %d", far)
				}
			}
			far, got, e := mtf.Move(row, s)
			if e != api.OK || far != string(want) || got != behind {
				t.Fatalf("Move of %d bytes: error %d", len(s), e)
			}
			text, again, e := mtf.Back(row, far)
			if e != api.OK || text != s || again != behind {
				t.Fatalf("Back of %d bytes: error %d", len(s), e)
			}
		}
	}
}

// 18.2, 18.4: any bytes are how far those of a text are, and of that one only.
func TestBack(t *testing.T) {
	for _, row := range rows() {
		for _, far := range texts() {
			s, behind, e := mtf.Back(row, far)
			again, other, f := mtf.Move(row, s)
			if e != api.OK || f != api.OK || again != far || other != behind || len(s) != len(far) {
				t.Fatalf("Back of %d bytes: error %d, and %d", len(far), e, f)
			}
		}
	}
}

// 18.2: more than MaxText bytes are out of range, and beside that there is nothing.
func TestRange(t *testing.T) {
	for _, many := range []int{api.MaxText + 1, api.MaxText + 2, 3 * api.MaxText} {
		for _, call := range []func(row, s string) (string, string, api.Errno){mtf.Move, mtf.Back} {
			for _, row := range rows() {
				if one, other, e := call(row, some(many, 9)); one != "" || other != "" || e != api.ErrRange {
					t.Fatalf("%d bytes: error %d, %d and %d bytes", many, e, len(one), len(other))
				}
			}
		}
	}
}

// 18.2: texts one behind the other are moved as one text, of the row behind the first one.
func TestParts(t *testing.T) {
	s := some(500, 40)
	want, behind, _ := mtf.Move(mtf.Fresh(), s)
	for at := range s {
		one, row, e := mtf.Move(mtf.Fresh(), s[:at])
		other, row, f := mtf.Move(row, s[at:])
		if e != api.OK || f != api.OK || one+other != want || row != behind {
			t.Fatalf("cut at %d: error %d, and %d", at, e, f)
		}
	}
}

// 18.3: what is answered is its own, also where it is what was handed in.
func TestNewMemory(t *testing.T) {
	row, s := string(fresh()), strings.Repeat("\x00", 50)
	one, behind, _ := mtf.Move(row, s)
	other, again, _ := mtf.Back(row, s)
	front, _, _ := mtf.Front(row, 0)
	seen := map[*byte]bool{}
	for _, text := range []string{row, s, one, behind, other, again, front, mtf.Fresh(), mtf.Fresh()} {
		if at := unsafe.StringData(text); seen[at] {
			t.Fatal("what is answered is no new memory")
		} else {
			seen[at] = true
		}
	}
	if one != s || other != s || behind != row || again != row || front != row {
		t.Errorf("the first byte of a row: %q, %q", one, other)
	}
}

// P1, P3, P4: whatever is handed in, each call answers the same twice, and leaves no goroutine.
func TestWhatever(t *testing.T) {
	before := runtime.NumGoroutine()
	r := rand.New(rand.NewPCG(18, 18))
	for i := range 400 {
		row := []byte(anyRow(uint64(i)))
		switch r.IntN(4) {
		case 0:
			row[r.IntN(256)] = byte(r.IntN(256))
		case 1:
			row = row[:r.IntN(257)]
		case 2:
			row = append(row, row[:r.IntN(20)]...)
		}
		is, s := len(row) == 256, some(r.IntN(70), 1+r.IntN(256))
		for c := range 256 {
			is = is && bytes.IndexByte(row, byte(c)) >= 0
		}
		want := api.OK
		if !is {
			want = api.ErrForm
		}
		for _, call := range []func(row, s string) (string, string, api.Errno){mtf.Move, mtf.Back} {
			one, other, e := call(string(row), s)
			two, third, f := call(string(row), s)
			if one != two || other != third || e != f || e != want {
				t.Fatalf("%q of %q: error %d, not %d", s, row, e, want)
			}
		}
		one, far, e := mtf.Front(string(row), byte(i))
		other, more, f := mtf.Front(string(row), byte(i))
		if one != other || far != more || e != f || e != want || mtf.Check(string(row)) != want {
			t.Fatalf("Front of %q: error %d, not %d", row, e, want)
		}
	}
	if after := runtime.NumGoroutine(); after > before {
		t.Errorf("%d goroutines, where %d were", after, before)
	}
}
