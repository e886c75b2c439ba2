// Package room has what room there has to be for files, and for those on the way to them.
package room

import (
	"wringer/recs"
	"wringer/runs"
)

// OfFile tells how many sectors a file has, whose width and count are right.
func OfFile(width int, count uint64) int {
	many, _ := recs.Need(width, count)
	return many
}

// OfSort tells how many sectors a sort needs, of a budget, and a file's width and count, that are right: those of all runs, and of a file of all their records. Files that are merged have no fewer sectors than the one that they become; of one run the new file is that one.
func OfSort(budget, width int, count uint64) int {
	run, _ := runs.Size(budget, width)
	size := uint64(run)
	many := OfFile(width, count)
	if count <= size {
		return many
	}
	for ; count > size; count -= size {
		many += OfFile(width, size)
	}
	return many + OfFile(width, count)
}
