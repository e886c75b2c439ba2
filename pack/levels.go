package pack

import (
	"cmp"
	"slices"
)

// parcel is a package: its weight, and whether it is a leaf alone.
type parcel struct {
	weight uint64
	leaf   bool
}

// leaves are the symbols of a weight above 0, in order by it.
func leaves(weights []uint64) []int {
	symbols := []int{}
	for i, w := range weights {
		if w > 0 {
			symbols = append(symbols, i)
		}
	}
	rise(symbols, func(symbol int) uint64 { return weights[symbol] })
	return symbols
}

// rise puts a list in order by what a function tells of each; alike ones stay as they stood.
func rise[T any](l []T, weight func(T) uint64) {
	slices.SortStableFunc(l, func(a, b T) int { return cmp.Compare(weight(a), weight(b)) })
}

// levels are the packages of each level, the first one first.
func levels(weights []uint64, symbols []int, limit int) [][]parcel {
	first := []parcel{}
	for _, symbol := range symbols {
		first = append(first, parcel{weight: weights[symbol], leaf: true})
	}
	all := [][]parcel{first}
	for len(all) < limit {
		all = append(all, level(first, all[len(all)-1]))
	}
	return all
}

// level puts in order the leaves, and each two packages of the level ahead as one; the leaves stand first, so that they do where weights are alike.
func level(leaves, ahead []parcel) []parcel {
	l := slices.Clone(leaves)
	for i := 1; i < len(ahead); i += 2 {
		l = append(l, parcel{weight: ahead[i-1].weight + ahead[i].weight})
	}
	rise(l, func(p parcel) uint64 { return p.weight })
	return l
}

// counts tells how often each of many leaves is in the last level's first packages.
// The first packages of a level that are no leaves are made of the first ones of the level ahead, so that how many these are is all that has to go down.
func counts(all [][]parcel, many int) []int {
	often := make([]int, many)
	first := 2*many - 2
	for _, l := range slices.Backward(all) {
		leaf := 0
		for _, p := range l[:first] {
			if p.leaf {
				often[leaf]++
				leaf++
			}
		}
		first = 2 * (first - leaf)
	}
	return often
}
