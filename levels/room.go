package levels

import (
	"wringer/api"
	"wringer/names"
	"wringer/room"
)

// atOnce tells how many numbers a list may have whose ends are put in order at once, of a budget that is right.
func atOnce(budget int) uint64 {
	return uint64(api.SectorSize * (budget - otherFrames) / numberSize)
}

// samples tells how many a list of so many numbers has, which are no more than a file may have.
func samples(count uint64) uint64 {
	many, _ := names.Need(count)
	return many
}

// firsts tells how many places leave 0, of a list of so many numbers, and rest how many do not.
func firsts(count uint64) uint64 { return (count + 2) / 3 }
func rest(count uint64) uint64   { return count - firsts(count) }

// Room tells how many sectors Array needs, of a budget that is right, for a list of so many numbers, the new file's among them. Where the list is made less, the last step up needs the most: further down there are more lists, but so much shorter ones that they never take as many.
func Room(budget int, count uint64) int {
	if count <= atOnce(budget) {
		return room.OfFile(1, count)
	}
	return ofExpand(budget, count)
}

// ofPairs tells how many sectors are needed to have so many pairs sorted: later files have fewer numbers to a record, and need no more.
func ofPairs(budget int, count uint64) int {
	return room.OfFile(pairWidth, count) + room.OfSort(budget, pairWidth, count)
}

// ofExpand tells how many sectors are needed to have the order of the ends of a list of so many numbers by that of the reduced list's: those of its samples' ranks, and of what is known of its places, as these are sorted. To have the ranks sorted ahead needs no more.
func ofExpand(budget int, count uint64) int {
	ranks := room.OfFile(pairWidth, samples(count))
	ones, others := room.OfFile(knownWidth, firsts(count)), room.OfFile(knownWidth, rest(count))
	return ranks + others + max(
		room.OfSort(budget, knownWidth, rest(count)),
		ones+room.OfSort(budget, knownWidth, firsts(count)),
	)
}
