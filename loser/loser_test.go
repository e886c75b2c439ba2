package loser_test

import (
	"math"
	"math/rand/v2"
	"runtime"
	"slices"
	"testing"

	"wringer/api"
	"wringer/loser"
)

// beats tells by the chapter's words whether of two leaves one beats another.
func beats(keys [][]uint64, one, other int) bool {
	a, b := keys[one], keys[other]
	if (len(a) == 0) != (len(b) == 0) {
		return len(b) == 0
	}
	if c := slices.Compare(a, b); c != 0 {
		return c < 0
	}
	return one < other
}

// fill tells a node's winner, and has the losers of it and all below it stand in tree.
func fill(keys [][]uint64, tree []int, n int) int {
	if n >= len(keys) {
		return n - len(keys)
	}
	a, b := fill(keys, tree, 2*n), fill(keys, tree, 2*n+1)
	if beats(keys, b, a) {
		a, b = b, a
	}
	tree[n] = b
	return a
}

// tree is the right tree of some keys.
func tree(keys ...[]uint64) api.Loser {
	t := api.Loser{Keys: keys, Tree: make([]int, len(keys))}
	t.Tree[0] = fill(keys, t.Tree, 1)
	return t
}

// alike holds two trees against each other; nil and empty lists are alike.
func alike(a, b api.Loser) bool {
	return slices.Equal(a.Tree, b.Tree) && slices.EqualFunc(a.Keys, b.Keys, slices.Equal[[]uint64])
}

// isTree holds a tree and an error against what they should be.
func isTree(t *testing.T, what string, got api.Loser, e api.Errno, want api.Loser, wantE api.Errno) {
	t.Helper()
	if !alike(got, want) || e != wantE {
		t.Fatalf("%s: error %d, not %d; %v\nas it should be:\n%v", what, e, wantE, got, want)
	}
}

// isTop holds what Top tells against what it should.
func isTop(t *testing.T, what string, tree api.Loser, want int, wantKey []uint64, wantE api.Errno) {
	t.Helper()
	leaf, key, e := loser.Top(tree)
	if leaf != want || !slices.Equal(key, wantKey) || e != wantE {
		t.Fatalf("Top of %s: %d, %v, error %d; not %d, %v, error %d, as it should be", what, leaf, key, e, want, wantKey, wantE)
	}
}

// isPath holds what Path tells against what it should.
func isPath(t *testing.T, tree api.Loser, leaf int, want []int, wantE api.Errno) {
	t.Helper()
	got, e := loser.Path(tree, leaf)
	if !slices.Equal(got, want) || e != wantE {
		t.Fatalf("Path of %d leaves' %d: %v, error %d; not %v, error %d, as it should be", len(tree.Keys), leaf, got, e, want, wantE)
	}
}

// some makes keys, the same at each run: short ones of few numbers, some of them empty, many of them alike or what others begin with.
func some(seed uint64, many int) [][]uint64 {
	r := rand.New(rand.NewPCG(8, seed))
	keys := make([][]uint64, many)
	for i := range keys {
		for range r.IntN(4) {
			keys[i] = append(keys[i], r.Uint64N(3))
		}
	}
	return keys
}

// ones makes keys of one number each.
func ones(l ...uint64) [][]uint64 {
	keys := [][]uint64{}
	for _, n := range l {
		keys = append(keys, []uint64{n})
	}
	return keys
}

// copied is a tree that shares nothing with t.
func copied(t api.Loser) api.Loser {
	c := api.Loser{Tree: slices.Clone(t.Tree)}
	for _, key := range t.Keys {
		c.Keys = append(c.Keys, slices.Clone(key))
	}
	return c
}

func TestExample(t *testing.T) {
	got, e := loser.Make(ones(5, 3, 4)...)
	// The leaves are at 3, 4 and 5: the node 2 has the second and the third one, the node 1 the second one and the first.
	isTree(t, "5, 3, 4", got, e, api.Loser{Keys: ones(5, 3, 4), Tree: []int{1, 0, 2}}, api.OK)
	isTop(t, "5, 3, 4", got, 1, []uint64{3}, api.OK)
}

// 8.1: trees told by hand.
func TestMake(t *testing.T) {
	const huge = math.MaxUint64
	for _, l := range []struct {
		what string
		keys [][]uint64
		tree []int
	}{
		{"one leaf", ones(7), []int{0}},
		{"one leaf that is empty", [][]uint64{nil}, []int{0}},
		{"two", ones(7, 6), []int{1, 0}},
		{"two that are alike", ones(7, 7), []int{0, 1}},
		{"two that are empty", [][]uint64{{}, nil}, []int{0, 1}},
		{"an empty one first", [][]uint64{nil, {huge, huge}}, []int{1, 0}},
		{"an empty one last", [][]uint64{{huge}, nil}, []int{0, 1}},
		{"one that begins with another", [][]uint64{{1, 0}, {1}}, []int{1, 0}},
		{"one that another begins with", [][]uint64{{1}, {1, 0}}, []int{0, 1}},
		{"a longer one that is less", [][]uint64{{2}, {1, 9, 9, 9, 9, 9, 9, 9, 9, 9}}, []int{1, 0}},
		{"past what numbers of records are", [][]uint64{{huge, huge}, {huge, api.MaxNum}}, []int{1, 0}},
		{"three that are alike", ones(1, 1, 1), []int{0, 1, 2}},
		{"four that fall", ones(4, 3, 2, 1), []int{3, 1, 0, 2}},
		{"five that rise", ones(1, 2, 3, 4, 5), []int{0, 1, 3, 2, 4}},
		{"five, some of them empty", [][]uint64{nil, nil, {9}, nil, {8}}, []int{4, 2, 0, 1, 3}},
	} {
		got, e := loser.Make(l.keys...)
		isTree(t, l.what, got, e, api.Loser{Keys: l.keys, Tree: l.tree}, api.OK)
		if e := loser.Check(got); e != api.OK {
			t.Errorf("%s: Check: error %d", l.what, e)
		}
	}
}

// 8.1: how many leaves there may be, and the tree of any keys is that of the chapter's words.
func TestMakeMany(t *testing.T) {
	for many := 1; many <= api.MaxLeaves; many++ {
		for seed := range uint64(4) {
			keys := some(seed, many)
			got, e := loser.Make(keys...)
			isTree(t, "some keys", got, e, tree(keys...), api.OK)
			if e := loser.Check(tree(keys...)); e != api.OK {
				t.Fatalf("%d leaves: Check: error %d", many, e)
			}
		}
	}
	for _, many := range []int{0, api.MaxLeaves + 1, 3 * api.MaxLeaves} {
		got, e := loser.Make(some(1, many)...)
		isTree(t, "too few, or too many", got, e, api.Loser{}, api.ErrRange)
	}
}

// isWrong has each call tell that a tree is not right.
func isWrong(t *testing.T, what string, wrong api.Loser) {
	t.Helper()
	if e := loser.Check(wrong); e != api.ErrForm {
		t.Fatalf("%s: Check: error %d", what, e)
	}
	isTop(t, what, wrong, 0, nil, api.ErrForm)
	for _, key := range [][]uint64{nil, {0}, {9}} {
		got, e := loser.Put(wrong, key...)
		isTree(t, what+": Put", got, e, api.Loser{}, api.ErrForm)
	}
	for _, leaf := range []int{-1, 0, len(wrong.Keys)} {
		isPath(t, wrong, leaf, nil, api.ErrForm)
	}
}

// 8.1: trees made by hand that are not right.
func TestCheck(t *testing.T) {
	isWrong(t, "nothing", api.Loser{})
	isWrong(t, "no keys", api.Loser{Tree: []int{0}})
	isWrong(t, "no tree", api.Loser{Keys: ones(1)})
	isWrong(t, "too many", tree(some(1, api.MaxLeaves+1)...))
	for many := 1; many <= 9; many++ {
		right := tree(some(5, many)...)
		for at := range right.Tree {
			for _, leaf := range []int{math.MinInt, -1, 0, 1, many - 1, many, 2 * many, math.MaxInt} {
				wrong := copied(right)
				if wrong.Tree[at] = leaf; leaf != right.Tree[at] {
					isWrong(t, "another number in the tree", wrong)
				}
			}
		}
		wrong := copied(right)
		wrong.Tree = wrong.Tree[:many-1]
		isWrong(t, "one too few in the tree", wrong)
		wrong.Tree = append(right.Tree, 0)
		isWrong(t, "one too many in the tree", wrong)
	}
	isWrong(t, "another winner, of keys that are alike", api.Loser{Keys: ones(1, 1), Tree: []int{1, 0}})
	isWrong(t, "an empty key that wins", api.Loser{Keys: [][]uint64{nil, {1}}, Tree: []int{0, 1}})
	isWrong(t, "losers that stand at each other's nodes", api.Loser{Keys: ones(5, 3, 4), Tree: []int{1, 2, 0}})
}

// 8.1
func TestTop(t *testing.T) {
	isTop(t, "one leaf", tree(ones(9)...), 0, []uint64{9}, api.OK)
	isTop(t, "keys that are alike", tree(ones(9, 9, 9)...), 0, []uint64{9}, api.OK)
	isTop(t, "one that others begin with", tree([]uint64{9, 1}, []uint64{9, 0, 0}, []uint64{9, 0}), 2, []uint64{9, 0}, api.OK)
	isTop(t, "one that is not empty", tree(nil, nil, []uint64{9}, nil), 2, []uint64{9}, api.OK)
	isTop(t, "a key of 0", tree(nil, []uint64{0}), 1, []uint64{0}, api.OK)
	for many := 1; many <= api.MaxLeaves; many++ {
		isTop(t, "empty keys", tree(make([][]uint64, many)...), 0, nil, api.ErrNone)
		keys := some(7, many)
		best := 0
		for leaf := range keys {
			if beats(keys, leaf, best) {
				best = leaf
			}
		}
		if len(keys[best]) > 0 {
			isTop(t, "some keys", tree(keys...), best, keys[best], api.OK)
		}
	}
}

// 8.2
func TestPut(t *testing.T) {
	put := func(what string, keys [][]uint64, key []uint64, leaf int) {
		t.Helper()
		want := copied(tree(keys...))
		want.Keys[leaf] = key
		got, e := loser.Put(tree(keys...), key...)
		isTree(t, what, got, e, tree(want.Keys...), api.OK)
	}
	put("a greater one", ones(5, 3, 4), []uint64{6}, 1)
	put("the same one", ones(5, 3, 4), []uint64{3}, 1)
	put("one that begins with it", ones(5, 3, 4), []uint64{3, 0}, 1)
	put("one that is as great as another one of a lower place", ones(5, 3, 4), []uint64{5}, 1)
	put("one that is as great as another one of a higher place", ones(5, 3, 4), []uint64{4}, 1)
	put("none", ones(5, 3, 4), nil, 1)
	put("one leaf", ones(5), []uint64{math.MaxUint64}, 0)
	put("one leaf, none", ones(5), nil, 0)
	put("the last one that is not empty", [][]uint64{nil, nil, {5}}, nil, 2)
	put("0 behind 0", ones(0, 0), []uint64{0}, 0)
	refuse := func(what string, keys [][]uint64, key []uint64, want api.Errno) {
		t.Helper()
		got, e := loser.Put(tree(keys...), key...)
		isTree(t, what, got, e, tree(keys...), want)
	}
	refuse("one that is less", ones(5, 3, 4), []uint64{2}, api.ErrOrder)
	refuse("one that it begins with", [][]uint64{{5}, {3, 0}}, []uint64{3}, api.ErrOrder)
	refuse("a longer one that is less", ones(5, 3, 4), []uint64{2, 9, 9}, api.ErrOrder)
	refuse("empty keys", make([][]uint64, 3), []uint64{1}, api.ErrNone)
	refuse("empty keys, none", make([][]uint64, 3), nil, api.ErrNone)
	refuse("one leaf that is empty", make([][]uint64, 1), []uint64{0}, api.ErrNone)
}

// 8.2: over long walks of right and wrong steps the tree is that of the chapter's words.
func TestPutWalk(t *testing.T) {
	r := rand.New(rand.NewPCG(8, 2))
	puts, orders, nones := 0, 0, 0
	for _, many := range []int{1, 2, 3, 4, 5, 6, 7, 8, 9, 16, 17, 31, 100, api.MaxLeaves - 1, api.MaxLeaves} {
		now := tree(some(uint64(many), many)...)
		for range 40 + 4*many {
			key := []uint64{}
			for range r.IntN(4) {
				key = append(key, r.Uint64N(4))
			}
			want, wantE, leaf := copied(now), api.OK, now.Tree[0]
			switch {
			case len(now.Keys[leaf]) == 0:
				wantE = api.ErrNone
				nones++
			case len(key) > 0 && slices.Compare(key, now.Keys[leaf]) < 0:
				wantE = api.ErrOrder
				orders++
			default:
				want.Keys[leaf] = key
				want = tree(want.Keys...)
				puts++
			}
			got, e := loser.Put(now, key...)
			isTree(t, "Put", got, e, want, wantE)
			if now = got; len(got.Keys[got.Tree[0]]) == 0 && r.IntN(4) == 0 {
				now = tree(some(r.Uint64(), many)...)
			}
		}
	}
	if puts < 500 || orders < 100 || nones < 20 {
		t.Fatalf("%d were put, %d less, %d where all are empty", puts, orders, nones)
	}
}

// 8.2, 8.5: the nodes above a leaf are those that it is below of, and no more than there may be.
func TestPath(t *testing.T) {
	for many := 1; many <= api.MaxLeaves; many++ {
		keys := some(3, many)
		most := 1
		for left := many; left > 1; left = (left + 1) / 2 {
			most++
		}
		for leaf := range many {
			want := []int{}
			for n := many - 1; n >= 1; n-- {
				if below(n, many+leaf) {
					want = append(want, n)
				}
			}
			isPath(t, tree(keys...), leaf, want, api.OK)
			if len(want) > most {
				t.Fatalf("%d nodes above a leaf of %d", len(want), many)
			}
		}
		for _, leaf := range []int{math.MinInt, -many, -1, many, many + 1, math.MaxInt} {
			isPath(t, tree(keys...), leaf, nil, api.ErrRange)
		}
	}
	isPath(t, tree(ones(5, 3, 4)...), 0, []int{1}, api.OK)
	isPath(t, tree(ones(5, 3, 4)...), 1, []int{2, 1}, api.OK)
	isPath(t, tree(ones(5)...), 0, nil, api.OK)
	isPath(t, tree(make([][]uint64, 2)...), 1, []int{1}, api.OK)
}

// below tells whether place stands below the node n.
func below(n, place int) bool {
	return n <= place && (n == place || below(2*n, place) || below(2*n+1, place))
}

// 8.3: what is answered is new memory, and what is handed in is as it was.
func TestNewMemory(t *testing.T) {
	keys := some(4, 9)
	made, _ := loser.Make(keys...)
	again, _ := loser.Make(keys...)
	spoil(made)
	isTree(t, "Make, when what it told has changed", again, api.OK, tree(some(4, 9)...), api.OK)
	if !slices.EqualFunc(keys, some(4, 9), slices.Equal[[]uint64]) {
		t.Error("Make: what was handed in has changed")
	}
	for _, key := range [][]uint64{{9, 9}, nil, {0}} {
		from := tree(ones(5, 3, 4)...)
		kept := slices.Clone(key)
		got, _ := loser.Put(from, key...)
		want := copied(got)
		other, _ := loser.Put(from, key...)
		spoil(got)
		for i := range key {
			key[i] = 77
		}
		isTree(t, "Put, when what it told, and was handed in, have changed", other, api.OK, want, api.OK)
		isTree(t, "what Put was handed in", from, api.OK, tree(ones(5, 3, 4)...), api.OK)
		copy(key, kept)
	}
	from := tree(ones(5, 3, 4)...)
	_, key, _ := loser.Top(from)
	key[0] = 77
	nodes, _ := loser.Path(from, 1)
	nodes[0] = 77
	isTree(t, "what Top and Path were handed in", from, api.OK, tree(ones(5, 3, 4)...), api.OK)
	isPath(t, from, 1, []int{2, 1}, api.OK)
}

// spoil has all that a tree holds be something else, also behind the ends of its lists.
func spoil(t api.Loser) {
	for i, key := range t.Keys {
		for j := range key {
			key[j] = 77
		}
		t.Keys[i] = append(key, 77)
	}
	for i := range t.Tree {
		t.Tree[i] = 77
	}
}

// 8.4: sorted lists, of which Top tells the least and the next one is put, come out sorted, those that are alike by place.
func TestSorted(t *testing.T) {
	r := rand.New(rand.NewPCG(8, 4))
	for _, many := range []int{1, 2, 3, 5, 8, 13, 64, api.MaxLeaves} {
		lists, want := make([][][]uint64, many), [][]uint64{}
		for i := range lists {
			for range r.IntN(9) {
				lists[i] = append(lists[i], []uint64{r.Uint64N(5), r.Uint64N(3), uint64(i)}[:1+r.IntN(3)])
			}
			slices.SortFunc(lists[i], slices.Compare[[]uint64])
			want = append(want, lists[i]...)
		}
		slices.SortStableFunc(want, slices.Compare[[]uint64])
		next := func(i int) []uint64 {
			if len(lists[i]) == 0 {
				return nil
			}
			key := lists[i][0]
			lists[i] = lists[i][1:]
			return key
		}
		firsts := [][]uint64{}
		for i := range lists {
			firsts = append(firsts, next(i))
		}
		now, e := loser.Make(firsts...)
		got := [][]uint64{}
		for leaf, key, top := loser.Top(now); top == api.OK && e == api.OK; leaf, key, top = loser.Top(now) {
			got = append(got, key)
			now, e = loser.Put(now, next(leaf)...)
		}
		if e != api.OK || !slices.EqualFunc(got, want, slices.Equal[[]uint64]) {
			t.Fatalf("%d lists: error %d, %v\nas it should be:\n%v", many, e, got, want)
		}
	}
}

// 8.4: keys that are put out one by one rise, those that are alike by place.
func TestPutOut(t *testing.T) {
	for _, many := range []int{1, 2, 7, 100, api.MaxLeaves} {
		keys := some(9, many)
		now := tree(keys...)
		told := 0
		for last := -1; ; told++ {
			leaf, key, e := loser.Top(now)
			if e == api.ErrNone {
				break
			}
			if last >= 0 && !beats(keys, last, leaf) || !slices.Equal(key, keys[leaf]) {
				t.Fatalf("%v of %d is told behind %d", key, leaf, last)
			}
			last = leaf
			now, _ = loser.Put(now)
		}
		if empty := slices.DeleteFunc(slices.Clone(keys), func(key []uint64) bool { return len(key) == 0 }); told != len(empty) {
			t.Fatalf("%d keys were told of %d", told, len(empty))
		}
	}
}

// P1, P3, P4: whatever is handed in, each call answers the same twice, and leaves no goroutine.
func TestWhatever(t *testing.T) {
	before := runtime.NumGoroutine()
	r := rand.New(rand.NewPCG(8, 8))
	rights := 0
	for range 3000 {
		from := api.Loser{Keys: some(r.Uint64(), r.IntN(5))}
		for range len(from.Keys) + r.IntN(20)/19 {
			from.Tree = append(from.Tree, r.IntN(4)-r.IntN(20)/19)
		}
		e := loser.Check(from)
		if e == api.OK {
			rights++
			isTree(t, "a tree that is right", from, e, tree(from.Keys...), e)
		}
		leaf, key, e := loser.Top(from)
		isTop(t, "it again", from, leaf, key, e)
		one, e := loser.Put(from, key...)
		other, f := loser.Put(from, key...)
		isTree(t, "Put again", other, f, one, e)
		for _, leaf := range []int{-1, 0, 4} {
			nodes, e := loser.Path(from, leaf)
			isPath(t, from, leaf, nodes, e)
		}
	}
	if after := runtime.NumGoroutine(); after > before || rights < 50 {
		t.Errorf("%d goroutines, where %d were; %d trees were right", after, before, rights)
	}
}
