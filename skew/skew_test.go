package skew_test

import (
	"math/rand/v2"
	"runtime"
	"slices"
	"strconv"
	"testing"

	"wringer/api"
	"wringer/num"
	"wringer/order"
	"wringer/skew"
)

// some makes a list of so many numbers, from 1 to one that is told, the same at each run.
func some(many int, highest uint64) []uint64 {
	r := rand.New(rand.NewPCG(uint64(many), highest))
	l := make([]uint64, many)
	for i := range l {
		l[i] = 1 + r.Uint64N(highest)
	}
	return l
}

// repeated makes a list of so many numbers, of some that come again and again.
func repeated(many int, l ...uint64) []uint64 {
	return slices.Repeat(l, many/len(l)+1)[:many]
}

// rising makes a list of so many numbers, from one on.
func rising(from uint64, many int) []uint64 {
	l := make([]uint64, many)
	for i := range l {
		l[i] = from + uint64(i)
	}
	return l
}

// falling makes a list of so many numbers, down to one.
func falling(to uint64, many int) []uint64 {
	l := rising(to, many)
	slices.Reverse(l)
	return l
}

// shapes are lists of so many numbers.
func shapes(many int) map[string][]uint64 {
	return map[string][]uint64{
		"all 1":                 repeated(many, 1),
		"all the highest":       repeated(many, api.MaxNum-1),
		"rising":                rising(1, many),
		"falling":               falling(1, many),
		"rising to the highest": rising(api.MaxNum-uint64(many), many),
		"falling by turns":      repeated(many, 3, 2, 1),
		"three in turns":        repeated(many, 1, 1, 2),
		"four in turns":         repeated(many, 2, 1, 1, 1),
		"the least and highest": repeated(many, api.MaxNum-1, 1),
		"any of two":            some(many, 2),
		"any of some":           some(many, 40),
		"any":                   some(many, api.MaxNum-1),
		"alike but for the end": append(repeated(max(0, many-1), 7), repeated(min(1, many), 6)...),
	}
}

// samples are the places of a list of so many numbers that are its samples, by the words of chapter 13.
func samples(many int) []int {
	ones, twos := []int{}, []int{}
	for place := range many {
		switch place % 3 {
		case 1:
			ones = append(ones, place)
		case 2:
			twos = append(twos, place)
		}
	}
	if many%3 == 1 {
		ones = append(ones, many)
	}
	return append(ones, twos...)
}

// triples are those of a list's samples.
func triples(l []uint64) [][]uint64 {
	padded, out := append(slices.Clone(l), 0, 0, 0), [][]uint64{}
	for _, place := range samples(len(l)) {
		out = append(out, padded[place:place+3])
	}
	return out
}

// reduced is a list's reduced one, and how many names there are.
func reduced(l []uint64) ([]uint64, int) {
	known := slices.SortedFunc(slices.Values(triples(l)), slices.Compare)
	known = slices.CompactFunc(known, slices.Equal)
	out := []uint64{}
	for _, t := range triples(l) {
		isBehind := func(k []uint64) bool { return !num.Less(k, t) }
		out = append(out, uint64(slices.IndexFunc(known, isBehind))+1)
	}
	return out, len(known)
}

// inOrder are some places of a list, in the order of the ends there.
func inOrder(l []uint64, places []int) []int {
	return slices.SortedFunc(slices.Values(places), func(a, b int) int { return slices.Compare(l[a:], l[b:]) })
}

// ends are those of a list, in order.
func ends(l []uint64) []int {
	places := []int{}
	for place := range l {
		places = append(places, place)
	}
	return inOrder(l, places)
}

// isReduced holds what is told of a list, but of its ends, against the chapter's words.
func isReduced(t *testing.T, what string, l []uint64) {
	t.Helper()
	if e := skew.Check(l); e != api.OK {
		t.Fatalf("Check of %s: error %d", what, e)
	}
	places, e := skew.Samples(l)
	if want := samples(len(l)); e != api.OK || !slices.Equal(places, want) {
		t.Fatalf("Samples of %s: error %d, %v\nas it should be:\n%v", what, e, places, want)
	}
	three, e := skew.Triples(l)
	if want := triples(l); e != api.OK || !slices.EqualFunc(three, want, slices.Equal[[]uint64]) {
		t.Fatalf("Triples of %s: error %d, %v\nas it should be:\n%v", what, e, three, want)
	}
	less, names, e := skew.Reduce(l)
	if want, many := reduced(l); e != api.OK || names != many || !slices.Equal(less, want) {
		t.Fatalf("Reduce of %s: error %d, %d, %v\nas it should be:\n%d, %v", what, e, names, less, many, want)
	}
	if 3*len(less) > 2*len(l)+3 {
		t.Fatalf("Reduce of %s: %d numbers, of %d", what, len(less), len(l))
	}
}

// isOrdered holds what is told of a list's ends against those ends.
func isOrdered(t *testing.T, what string, l []uint64, want []int) {
	t.Helper()
	got, e := skew.Ends(l)
	if e != api.OK || !slices.Equal(got, want) {
		t.Fatalf("Ends of %s: error %d, %v\nas it should be:\n%v", what, e, got, want)
	}
	less, _, _ := skew.Reduce(l)
	of := ends(less)
	got, e = skew.Expand(l, of)
	if e != api.OK || !slices.Equal(got, want) {
		t.Fatalf("Expand of %s: error %d, %v\nas it should be:\n%v", what, e, got, want)
	}
	// 13.4: what is in order of the reduced list is so of the samples.
	places, stand := samples(len(l)), []int{}
	for _, end := range of {
		stand = append(stand, places[end])
	}
	if want := inOrder(l, places); !slices.Equal(stand, want) {
		t.Fatalf("%s: the samples' ends by the reduced list's: %v\nas it should be:\n%v", what, stand, want)
	}
}

func TestExample(t *testing.T) {
	l := []uint64{2, 1, 4, 1, 4, 1}
	places, e := skew.Samples(l)
	if e != api.OK || !slices.Equal(places, []int{1, 4, 2, 5}) {
		t.Errorf("Samples: error %d, %v", e, places)
	}
	less, names, e := skew.Reduce(l)
	if e != api.OK || names != 4 || !slices.Equal(less, []uint64{2, 3, 4, 1}) {
		t.Errorf("Reduce: error %d, %d, %v", e, names, less)
	}
}

// 13.1, 13.2, 13.4, 13.5: all lists of a few numbers.
func TestAll(t *testing.T) {
	for _, l := range []struct {
		highest uint64
		many    int
	}{{2, 12}, {3, 8}, {5, 5}} {
		next := [][]uint64{{}}
		for len(next) > 0 {
			one := next[0]
			next = next[1:]
			isReduced(t, "a list", one)
			isOrdered(t, "a list", one, ends(one))
			if len(one) == l.many {
				continue
			}
			for n := uint64(1); n <= l.highest; n++ {
				next = append(next, append(slices.Clone(one), n))
			}
		}
	}
}

// 13.1, 13.2, 13.4, 13.5: lists of many sizes, be they divided by 3 or not, with numbers of many kinds, up to the most.
func TestSizes(t *testing.T) {
	sizes := []int{728, 729, 730, 731, api.MaxPlain - 2, api.MaxPlain - 1, api.MaxPlain}
	for many := range 50 {
		sizes = append(sizes, many)
	}
	for _, many := range sizes {
		for what, l := range shapes(many) {
			what = strconv.Itoa(many) + " numbers, " + what
			isReduced(t, what, l)
			want, e := order.Ends(l)
			if e != api.OK || many < 1000 && !slices.Equal(want, ends(l)) {
				t.Fatalf("order.Ends of %s: error %d, %v", what, e, want)
			}
			isOrdered(t, what, l, want)
		}
	}
}

// wrong are lists that are not right.
func wrong() map[string][]uint64 {
	out := map[string][]uint64{
		"one too many":          repeated(api.MaxPlain+1, 1),
		"many too many":         repeated(3*api.MaxPlain, 1, 2),
		"too many, and wrong":   repeated(api.MaxPlain+1, 0),
		"0 alone":               {0},
		"one past the highest":  {api.MaxNum},
		"the highest that goes": {1<<64 - 1},
		"what is a sign":        {1 << 63},
	}
	for _, many := range []int{2, 3, 4, 100, api.MaxPlain} {
		for _, place := range []int{0, 1, many / 2, many - 2, many - 1} {
			for _, n := range []uint64{0, api.MaxNum, 1 << 63} {
				l := repeated(many, 5, 7)
				l[place] = n
				out[strconv.Itoa(many)+" numbers, of which that at "+strconv.Itoa(place)+" is "+strconv.FormatUint(n, 10)] = l
			}
		}
	}
	return out
}

// 13.1, 13.2: lists that are not right are told by all, ahead of ends that are no order.
func TestWrong(t *testing.T) {
	for what, l := range wrong() {
		if e := skew.Check(l); e != api.ErrRange {
			t.Fatalf("Check of %s: error %d", what, e)
		}
		if places, e := skew.Samples(l); e != api.ErrRange || len(places) > 0 {
			t.Fatalf("Samples of %s: error %d, %v", what, e, places)
		}
		if three, e := skew.Triples(l); e != api.ErrRange || len(three) > 0 {
			t.Fatalf("Triples of %s: error %d, %v", what, e, three)
		}
		if less, names, e := skew.Reduce(l); e != api.ErrRange || len(less) > 0 || names != 0 {
			t.Fatalf("Reduce of %s: error %d, %d, %v", what, e, names, less)
		}
		if got, e := skew.Ends(l); e != api.ErrRange || len(got) > 0 {
			t.Fatalf("Ends of %s: error %d, %v", what, e, got)
		}
		less, _ := reduced(l[:min(len(l), 100)])
		for _, of := range [][]int{nil, {0}, {-1}, {0, 0}, ends(less)} {
			if got, e := skew.Expand(l, of); e != api.ErrRange || len(got) > 0 {
				t.Fatalf("Expand of %s: error %d, %v", what, e, got)
			}
		}
	}
}

// isForm has Expand tell that ends are no order.
func isForm(t *testing.T, l []uint64, of []int) {
	t.Helper()
	if got, e := skew.Expand(l, of); e != api.ErrForm || len(got) > 0 {
		t.Fatalf("Expand of %v by %v: error %d, %v", l, of, e, got)
	}
}

// 13.2: ends that are no order of the reduced list's: other places, other orders, fewer and more of them.
func TestExpandWrong(t *testing.T) {
	for many := range 14 {
		for _, l := range shapes(many) {
			less, _ := reduced(l)
			of := ends(less)
			isForm(t, l, append(slices.Clone(of), len(of)))
			isForm(t, l, append(slices.Clone(of), 0))
			isForm(t, l, append([]int{len(of)}, of...))
			for i := range of {
				isForm(t, l, slices.Delete(slices.Clone(of), i, i+1))
				for _, end := range []int{-1, len(of), of[(i+1)%len(of)], -1 << 63, 1<<63 - 1} {
					if one := slices.Clone(of); end != one[i] {
						one[i] = end
						isForm(t, l, one)
					}
				}
				for j := range i {
					one := slices.Clone(of)
					one[i], one[j] = one[j], one[i]
					isForm(t, l, one)
				}
			}
		}
	}
	long := repeated(api.MaxPlain, 1)
	less, _ := reduced(long)
	of := ends(less)
	of[1], of[2] = of[2], of[1]
	isForm(t, long, of)
	isForm(t, long, ends(long))
}

// 13.2: of all orders of as many as there are just one is right.
func TestExpandOrders(t *testing.T) {
	for _, l := range [][]uint64{{2, 1, 4, 1, 4, 1}, {1, 1, 1, 1, 1, 1, 1, 1}, {3, 1, 2, 3, 1, 2, 3, 1, 2}} {
		less, _ := reduced(l)
		right := 0
		for _, of := range orders(len(less)) {
			got, e := skew.Expand(l, of)
			if !slices.Equal(of, ends(less)) {
				isForm(t, l, of)
				continue
			}
			right++
			if e != api.OK || !slices.Equal(got, ends(l)) {
				t.Fatalf("Expand of %v by %v: error %d, %v", l, of, e, got)
			}
		}
		if right != 1 {
			t.Fatalf("of %v there are %d orders", l, right)
		}
	}
}

// orders are all of the numbers below one.
func orders(many int) [][]int {
	if many == 0 {
		return [][]int{{}}
	}
	out := [][]int{}
	for _, of := range orders(many - 1) {
		for at := range many {
			out = append(out, slices.Insert(slices.Clone(of), at, many-1))
		}
	}
	return out
}

// 13.3: what is answered is new memory: what is done to it, up to the end of its room, changes neither what was handed in nor a later answer.
func TestNewMemory(t *testing.T) {
	for _, many := range []int{1, 2, 3, 4, 100} {
		for what, l := range shapes(many) {
			was := slices.Clone(l)
			less, _, _ := skew.Reduce(l)
			of := ends(less)
			places, _ := skew.Samples(l)
			three, _ := skew.Triples(l)
			one, _ := skew.Ends(l)
			other, _ := skew.Expand(l, of)
			for _, l := range [][]int{places, one, other} {
				clear(l[:cap(l)])
			}
			clear(less[:cap(less)])
			// No triple is in the room of another one.
			for i := range three {
				clear(three[i][:cap(three[i])])
				if i+1 < len(three) && !slices.Equal(three[i+1], triples(was)[i+1]) {
					t.Fatalf("Triples of %s: of %v one shares memory with the next", what, was)
				}
			}
			clear(three[:cap(three)])
			if kept, _ := reduced(was); !slices.Equal(l, was) || !slices.Equal(of, ends(kept)) {
				t.Fatalf("%s: what was handed in is another: %v, %v", what, l, of)
			}
			isReduced(t, what, l)
			isOrdered(t, what, l, ends(was))
		}
	}
}

// 13.3: what is handed in is not kept.
func TestNotKept(t *testing.T) {
	l := some(50, 9)
	less, _, _ := skew.Reduce(l)
	of := ends(less)
	places, _ := skew.Samples(l)
	three, _ := skew.Triples(l)
	one, _ := skew.Ends(l)
	other, _ := skew.Expand(l, of)
	was := slices.Clone(l)
	clear(l)
	clear(of)
	want, _ := reduced(was)
	if !slices.Equal(places, samples(50)) || !slices.EqualFunc(three, triples(was), slices.Equal[[]uint64]) || !slices.Equal(less, want) || !slices.Equal(one, ends(was)) || !slices.Equal(other, ends(was)) {
		t.Fatal("an answer changed with what was handed in")
	}
}

// P1, P3, P4: whatever is handed in, each call answers the same twice, and leaves no goroutine.
func TestWhatever(t *testing.T) {
	before := runtime.NumGoroutine()
	r := rand.New(rand.NewPCG(13, 13))
	for range 3000 {
		l := make([]uint64, r.IntN(12))
		for i := range l {
			l[i] = []uint64{0, 1, 2, 3, api.MaxNum - 1, api.MaxNum, r.Uint64()}[r.IntN(100)%7]
		}
		of := make([]int, r.IntN(9))
		for i := range of {
			of[i] = r.IntN(11) - 1
		}
		one, e := skew.Ends(l)
		again, f := skew.Ends(l)
		if e != f || !slices.Equal(one, again) || e != skew.Check(l) {
			t.Fatalf("Ends of %v: error %d, and then %d", l, e, f)
		}
		one, e = skew.Expand(l, of)
		again, f = skew.Expand(l, of)
		if e != f || !slices.Equal(one, again) || e != api.OK && len(one) > 0 {
			t.Fatalf("Expand of %v by %v: error %d, and then %d", l, of, e, f)
		}
	}
	if after := runtime.NumGoroutine(); after > before {
		t.Errorf("%d goroutines, where %d were", after, before)
	}
}
