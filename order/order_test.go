package order_test

import (
	"cmp"
	"math"
	"math/rand/v2"
	"runtime"
	"slices"
	"strings"
	"testing"
	"unsafe"

	"wringer/api"
	"wringer/order"
)

// inOrder are a list's ends in order, held against each other as a whole, as the chapter has it.
func inOrder[T cmp.Ordered](l []T) []int {
	ends := []int{}
	for place := range l {
		ends = append(ends, place)
	}
	slices.SortFunc(ends, func(a, b int) int { return slices.Compare(l[a:], l[b:]) })
	return ends
}

// lastColumn is a text's last column, and the primary, row by row.
func lastColumn(s string) (string, int) {
	column, primary := "", 0
	for row, end := range slices.Concat([]int{len(s)}, inOrder([]byte(s))) {
		if end == 0 {
			primary = row
		} else {
			column += s[end-1 : end]
		}
	}
	return column, primary
}

// numbers are a text's bytes.
func numbers(s string) []uint64 {
	l := []uint64{}
	for i := range len(s) {
		l = append(l, uint64(s[i]))
	}
	return l
}

// some makes a list of so many numbers, the same at each run; few of them are unlike.
func some(many int, unlike uint64) []uint64 {
	r := rand.New(rand.NewPCG(uint64(many), unlike))
	l := make([]uint64, many)
	for i := range l {
		l[i] = r.Uint64N(unlike)
	}
	return l
}

// text is a list's numbers as bytes.
func text(l []uint64) string {
	s := []byte{}
	for _, n := range l {
		s = append(s, byte(n))
	}
	return string(s)
}

// short are all lists of at most so many numbers, of those below unlike.
func short(many int, unlike uint64) [][]uint64 {
	all := [][]uint64{{}}
	for from := 0; many > 0; many-- {
		to := len(all)
		for _, l := range all[from:to] {
			for n := range unlike {
				all = append(all, append(slices.Clone(l), n))
			}
		}
		from = to
	}
	return all
}

// lists are some of all kinds: those of which much is alike, too.
func lists() [][]uint64 {
	l := append(short(5, 3), short(9, 2)...)
	for _, many := range []int{1, 2, 3, 7, 8, 9, 100, 255, 256, 257, 1000} {
		for _, unlike := range []uint64{1, 2, 3, 256, 1 << 40, math.MaxUint64} {
			l = append(l, some(many, unlike))
		}
		falling, rising := make([]uint64, many), make([]uint64, many)
		for i := range many {
			falling[i], rising[i] = uint64(many-i), uint64(i)
		}
		l = append(l, falling, rising, slices.Repeat([]uint64{math.MaxUint64}, many))
	}
	for _, s := range []string{"banana", "mississippi", "abracadabra", strings.Repeat("ab", 50), strings.Repeat("aab", 33) + "a", strings.Repeat("a", 60) + "b" + strings.Repeat("a", 60), "\x00", "\x00\x00\xff\xff\x00"} {
		l = append(l, numbers(s))
	}
	return l
}

// texts are the lists as texts.
func texts() []string {
	l := []string{}
	for _, one := range lists() {
		l = append(l, text(one))
	}
	return l
}

// perms are all lists that have each number below n, once.
func perms(n int) [][]int {
	if n == 0 {
		return [][]int{{}}
	}
	all := [][]int{}
	for _, l := range perms(n - 1) {
		for at := range n {
			all = append(all, slices.Insert(slices.Clone(l), at, n-1))
		}
	}
	return all
}

// isList holds a list and an error against what they should be; nil and empty ones are alike.
func isList(t *testing.T, what string, of any, got []int, e api.Errno, want []int, wantE api.Errno) {
	t.Helper()
	if !slices.Equal(got, want) || e != wantE {
		t.Fatalf("%s of %v: %v, error %d; not %v, error %d, as it should be", what, of, got, e, want, wantE)
	}
}

// isText holds a text and an error against what they should be.
func isText(t *testing.T, column string, primary int, want string, wantE api.Errno) {
	t.Helper()
	got, e := order.Text(column, primary)
	if got != want || e != wantE {
		t.Fatalf("Text(%q, %d): %q, error %d; not %q, error %d, as it should be", column, primary, got, e, want, wantE)
	}
}

func TestExample(t *testing.T) {
	ends, e := order.Ends(numbers("banana"))
	isList(t, "Ends", "banana", ends, e, []int{5, 3, 1, 0, 4, 2}, api.OK)
	column, primary, e := order.Column("banana")
	if column != "annbaa" || primary != 4 || e != api.OK {
		t.Errorf("Column: %q, %d, error %d", column, primary, e)
	}
	isText(t, "annbaa", 4, "banana", api.OK)
}

// 12.1, 12.5
func TestEnds(t *testing.T) {
	for _, l := range lists() {
		ends, e := order.Ends(l)
		isList(t, "Ends", l, ends, e, inOrder(l), api.OK)
		for row := 1; row < len(ends); row++ {
			if slices.Compare(l[ends[row-1]:], l[ends[row]:]) >= 0 {
				t.Fatalf("Ends of %v: %v, where the one at %d is not less than the next one", l, ends, row-1)
			}
		}
		if !order.Right(l, ends) {
			t.Fatalf("Right of %v: not %v", l, ends)
		}
	}
}

// 12.1: as many numbers as may be, and one more, be they alike or not.
func TestEndsMost(t *testing.T) {
	for _, unlike := range []uint64{1, 2, 300, math.MaxUint64} {
		l := some(api.MaxPlain, unlike)
		ends, e := order.Ends(l)
		isList(t, "Ends", "MaxPlain numbers", ends, e, inOrder(l), api.OK)
		for _, more := range []int{1, 2, 5 * api.MaxPlain} {
			ends, e := order.Ends(some(api.MaxPlain+more, unlike))
			isList(t, "Ends", "more than MaxPlain numbers", ends, e, nil, api.ErrRange)
		}
	}
}

// 12.1: all lists that have each number once, and others.
func TestInverse(t *testing.T) {
	for many := range 7 {
		for _, l := range perms(many) {
			want := make([]int, many)
			for place, n := range l {
				want[n] = place
			}
			places, e := order.Inverse(l)
			isList(t, "Inverse", l, places, e, want, api.OK)
			for at := range l {
				for _, n := range []int{math.MinInt, -1, l[(at+1)%many], many, many + 1, math.MaxInt} {
					wrong := slices.Clone(l)
					if wrong[at] = n; n != l[at] {
						places, e := order.Inverse(wrong)
						isList(t, "Inverse", wrong, places, e, nil, api.ErrForm)
					}
				}
			}
		}
	}
	l := rand.New(rand.NewPCG(12, 1)).Perm(100000)
	places, e := order.Inverse(l)
	again, f := order.Inverse(places)
	isList(t, "Inverse of Inverse", "100000 numbers", again, max(e, f), l, api.OK)
	places, e = order.Inverse(append(l, 5))
	isList(t, "Inverse", "100001 numbers", places, e, nil, api.ErrForm)
}

// 12.1: of all orders of so many places there is one that is right.
func TestRight(t *testing.T) {
	for _, l := range append(short(4, 3), some(6, 2), some(6, 3), numbers("banana"), numbers("aaaaaaa"), []uint64{0, math.MaxUint64, 0, math.MaxUint64}) {
		want := inOrder(l)
		for _, ends := range perms(len(l)) {
			if order.Right(l, ends) != slices.Equal(ends, want) {
				t.Fatalf("Right of %v: %v of %v", l, !slices.Equal(ends, want), ends)
			}
		}
	}
}

// 12.1, 12.3: what is no order of as many places at all.
func TestRightWrong(t *testing.T) {
	for _, l := range append(short(3, 2), some(100, 2), some(5000, 1), numbers("banana")) {
		ends := inOrder(l)
		wrongs := [][]int{append(slices.Clone(ends), len(l)), append(slices.Clone(ends), 0), append([]int{len(l)}, ends...), append([]int{-1}, ends...)}
		for at := range min(len(l), 9) {
			wrongs = append(wrongs, slices.Delete(slices.Clone(ends), at, at+1))
			for _, n := range []int{math.MinInt, -1, ends[(at+1)%len(l)], len(l), math.MaxInt} {
				wrong := slices.Clone(ends)
				if wrong[at] = n; n != ends[at] {
					wrongs = append(wrongs, wrong)
				}
			}
		}
		for _, wrong := range wrongs {
			if order.Right(l, wrong) {
				t.Fatalf("Right of %v: %v", l, wrong)
			}
			common, e := order.Common(l, wrong)
			isList(t, "Common, of ends that are not right,", l, common, e, nil, api.ErrForm)
		}
	}
}

// 12.1, 12.3: there may be more of them than MaxPlain.
func TestMany(t *testing.T) {
	const many = 20 * api.MaxPlain
	l, falling := slices.Repeat([]uint64{7}, many), make([]int, many)
	for i := range falling {
		falling[i] = many - 1 - i
	}
	want := []int{}
	for i := range many {
		want = append(want, i)
	}
	if !order.Right(l, falling) || order.Right(l, want) {
		t.Error("Right of what is all alike")
	}
	common, e := order.Common(l, falling)
	isList(t, "Common", "what is all alike", common, e, want, api.OK)
	common, e = order.Common(l, want)
	isList(t, "Common", "what is all alike, the other way round", common, e, nil, api.ErrForm)
	l = some(many, 4)
	ends := inOrder(l)
	if !order.Right(l, ends) {
		t.Error("Right of many")
	}
	for at := 1; at < many; at += many / 20 {
		ends[at-1], ends[at] = ends[at], ends[at-1]
		if order.Right(l, ends) {
			t.Errorf("Right of many, of which two stand the other way round, at %d", at)
		}
		ends[at-1], ends[at] = ends[at], ends[at-1]
	}
}

// 12.2, 12.6
func TestColumn(t *testing.T) {
	for _, s := range texts() {
		column, primary, e := order.Column(s)
		want, wantPrimary := lastColumn(s)
		if column != want || primary != wantPrimary || e != api.OK {
			t.Fatalf("Column of %q: %q, %d, error %d; not %q, %d, as it should be", s, column, primary, e, want, wantPrimary)
		}
		isText(t, column, primary, s, api.OK)
		if !slices.Equal(slices.Sorted(slices.Values([]byte(column))), slices.Sorted(slices.Values([]byte(s)))) {
			t.Fatalf("Column of %q: %q has other bytes", s, column)
		}
	}
}

// 12.2, 12.6: as many bytes as may be, and one more.
func TestColumnMost(t *testing.T) {
	for _, unlike := range []uint64{1, 2, 256} {
		s := text(some(api.MaxPlain, unlike))
		column, primary, e := order.Column(s)
		want, wantPrimary := lastColumn(s)
		if column != want || primary != wantPrimary || e != api.OK {
			t.Fatalf("Column of MaxPlain bytes: %q, %d, error %d", column, primary, e)
		}
		isText(t, column, primary, s, api.OK)
		for _, more := range []string{"a", s} {
			column, primary, e := order.Column(s + more)
			if column != "" || primary != 0 || e != api.ErrRange {
				t.Fatalf("Column of more than MaxPlain bytes: %q, %d, error %d", column, primary, e)
			}
			for _, primary := range []int{math.MinInt, -1, 0, 1, api.MaxPlain, len(s + more), math.MaxInt} {
				isText(t, s+more, primary, "", api.ErrRange)
			}
		}
	}
}

// 12.2: of all columns and primaries those of texts are told the text of, and no others.
func TestText(t *testing.T) {
	for _, l := range []struct {
		many   int
		unlike uint64
	}{{8, 2}, {6, 3}} {
		type last struct {
			column  string
			primary int
		}
		of := map[last]string{}
		all := short(l.many, l.unlike)
		for _, one := range all {
			column, primary := lastColumn(text(one))
			of[last{column, primary}] = text(one)
		}
		for _, one := range all {
			column := text(one)
			for _, primary := range []int{math.MinInt, -1, len(column) + 1, len(column) + 2, math.MaxInt} {
				isText(t, column, primary, "", api.ErrCode)
			}
			for primary := range len(column) + 1 {
				s, is := of[last{column, primary}]
				want := api.OK
				if !is {
					want = api.ErrCode
				}
				isText(t, column, primary, s, want)
			}
		}
	}
}

// 12.2: of a text's column another primary is that of no text, or of another one; so it is with bytes that stand otherwise.
func TestTextTurned(t *testing.T) {
	r := rand.New(rand.NewPCG(12, 2))
	for _, s := range []string{"mississippi", text(some(300, 4)), text(some(api.MaxPlain, 20))} {
		column, primary, _ := order.Column(s)
		for range 300 {
			turned, other := []byte(column), r.IntN(len(s)+1)
			if a, b := r.IntN(len(s)), r.IntN(len(s)); r.IntN(2) == 0 {
				turned[a], turned[b], other = turned[b], turned[a], primary
			}
			got, e := order.Text(string(turned), other)
			if e == api.OK {
				back, backPrimary, _ := order.Column(got)
				if back != string(turned) || backPrimary != other {
					t.Fatalf("Text(%q, %d): %q, whose last column is %q, the primary %d", turned, other, got, back, backPrimary)
				}
			} else if e != api.ErrCode || got != "" {
				t.Fatalf("Text(%q, %d): %q, error %d", turned, other, got, e)
			}
		}
	}
}

// 12.3
func TestCommon(t *testing.T) {
	for _, l := range lists() {
		ends := inOrder(l)
		want := make([]int, len(ends))
		for row := 1; row < len(ends); row++ {
			a, b := l[ends[row-1]:], l[ends[row]:]
			for want[row] < min(len(a), len(b)) && a[want[row]] == b[want[row]] {
				want[row]++
			}
		}
		common, e := order.Common(l, ends)
		isList(t, "Common", l, common, e, want, api.OK)
	}
	common, e := order.Common(numbers("banana"), []int{5, 3, 1, 0, 4, 2})
	isList(t, "Common", "banana", common, e, []int{0, 1, 3, 0, 0, 2}, api.OK)
}

// 12.4: what each call answers is its own, and what was handed in is as it was.
func TestNewMemory(t *testing.T) {
	// There is room behind each list, into which nothing may be put.
	l, ends := append(make([]uint64, 0, 99), some(40, 3)...), append(make([]int, 0, 99), inOrder(some(40, 3))...)
	for what, call := range map[string]func() []int{
		"Ends":    func() []int { a, _ := order.Ends(l); return a },
		"Inverse": func() []int { a, _ := order.Inverse(ends); return a },
		"Common":  func() []int { a, _ := order.Common(l, ends); return a },
	} {
		got, again := call(), call()
		was := slices.Clone(again)
		clear(got)
		if !slices.Equal(again, was) || !slices.Equal(call(), was) {
			t.Errorf("%s: what was answered is kept", what)
		}
	}
	order.Right(l, ends)
	if !slices.Equal(l, some(40, 3)) || !slices.Equal(ends, inOrder(l)) || slices.Max(l[:99][40:]) > 0 || slices.Max(ends[:99][40:]) > 0 {
		t.Error("what was handed in is changed")
	}
	for _, s := range []string{"a", "ab", "banana", strings.Repeat("a", 50)} {
		column, primary, _ := order.Column(s)
		again, _, _ := order.Column(s)
		back, _ := order.Text(column, primary)
		backAgain, _ := order.Text(column, primary)
		of := map[*byte]int{}
		for _, one := range []string{s, column, again, back, backAgain} {
			// Texts of a single byte are always the same memory.
			if of[unsafe.StringData(one)]++; of[unsafe.StringData(one)] > 1 && len(one) > 1 {
				t.Errorf("%q: a text is no new memory", s)
			}
		}
	}
}

// P1, P3, P4: whatever is handed in, each call answers the same twice, leaves no goroutine, and has nothing beside an error.
func TestWhatever(t *testing.T) {
	before := runtime.NumGoroutine()
	r := rand.New(rand.NewPCG(12, 3))
	for range 3000 {
		l, ends := make([]uint64, r.IntN(9)), make([]int, r.IntN(9))
		for i := range l {
			l[i] = r.Uint64() >> r.IntN(64)
		}
		for i := range ends {
			ends[i] = r.IntN(11) - 1
		}
		if r.IntN(2) == 0 {
			ends = r.Perm(len(l))
		}
		a, e := order.Inverse(ends)
		b, f := order.Inverse(ends)
		if !slices.Equal(a, b) || e != f || e != api.OK && len(a) > 0 {
			t.Fatalf("Inverse of %v: %v, error %d, and then %v, error %d", ends, a, e, b, f)
		}
		a, e = order.Common(l, ends)
		b, f = order.Common(l, ends)
		if !slices.Equal(a, b) || e != f || e != api.OK && len(a) > 0 || (e == api.OK) != order.Right(l, ends) {
			t.Fatalf("Common of %v, %v: %v, error %d, and then %v, error %d", l, ends, a, e, b, f)
		}
		s, primary := text(l), r.IntN(11)-1
		one, e := order.Text(s, primary)
		other, f := order.Text(s, primary)
		if one != other || e != f || e != api.OK && one != "" {
			t.Fatalf("Text(%q, %d): %q, error %d, and then %q, error %d", s, primary, one, e, other, f)
		}
	}
	if after := runtime.NumGoroutine(); after > before {
		t.Errorf("%d goroutines, where %d were", after, before)
	}
}
