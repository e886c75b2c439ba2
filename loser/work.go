package loser

import (
	"iter"
	"slices"

	"wringer/api"
	"wringer/num"
)

// work is a tree at work.
type work struct {
	api.Loser
}

// begin has a copy of t at work, whose lists are its own.
func begin(t api.Loser) *work {
	w := &work{api.Loser{Keys: make([][]uint64, 0, len(t.Keys)), Tree: slices.Clone(t.Tree)}}
	for _, key := range t.Keys {
		w.Keys = append(w.Keys, slices.Clone(key))
	}
	return w
}

// isMany tells whether a tree may have so many leaves.
func isMany(leaves int) bool { return leaves >= 1 && leaves <= api.MaxLeaves }

// winner tells which leaf wins.
func (w *work) winner() int { return w.Tree[0] }

// best tells the winner's key.
func (w *work) best() []uint64 { return w.Keys[w.winner()] }

// isEmpty tells whether all keys are empty: one that is wins against no other.
func (w *work) isEmpty() bool { return len(w.best()) == 0 }

// put has the winner's key be another one. Only nodes above its leaf may have another loser then.
func (w *work) put(key []uint64) api.Errno {
	if w.isEmpty() {
		return api.ErrNone
	}
	if len(key) > 0 && num.Less(key, w.best()) {
		return api.ErrOrder
	}
	leaf := w.winner()
	w.Keys[leaf] = slices.Clone(key)
	for n := range w.above(leaf) {
		if beats(w.Keys, w.Tree[n], leaf) {
			w.Tree[n], leaf = leaf, w.Tree[n]
		}
	}
	w.Tree[0] = leaf
	return api.OK
}

// above tells the nodes above a leaf, the lowest one first.
func (w *work) above(leaf int) iter.Seq[int] {
	return func(yield func(int) bool) {
		for n := (len(w.Keys) + leaf) / 2; n >= 1 && yield(n); n /= 2 {
		}
	}
}

// beats tells whether of two leaves a beats b. An empty key is less than any other (num.Less), and yet it is beaten by these.
func beats(keys [][]uint64, a, b int) bool {
	one, other := keys[a], keys[b]
	if len(one) == 0 || len(other) == 0 {
		return len(one) > 0 || len(other) == 0 && a < b
	}
	return num.Less(one, other) || !num.Less(other, one) && a < b
}

// build tells the winner, and each node's loser, of some keys.
func build(keys [][]uint64) []int {
	many := len(keys)
	winners, tree := make([]int, 2*many), make([]int, many)
	for leaf := range keys {
		winners[many+leaf] = leaf
	}
	for n := many - 1; n >= 1; n-- {
		a, b := winners[2*n], winners[2*n+1]
		if beats(keys, b, a) {
			a, b = b, a
		}
		winners[n], tree[n] = a, b
	}
	// One leaf alone stands where else the node 1 does.
	tree[0] = winners[1]
	return tree
}
