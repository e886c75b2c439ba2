package skew

import (
	"slices"

	"wringer/order"
	"wringer/thirds"
)

// triple is three numbers of a list, side by side.
type triple [3]uint64

// compare holds two triples against each other, number by number.
func compare(a, b triple) int { return slices.Compare(a[:], b[:]) }

// list is some numbers, behind which there is nothing but 0.
type list []uint64

// at tells the number at a place.
func (l list) at(place int) uint64 {
	if place < len(l) {
		return l[place]
	}
	return 0
}

// level is a list at work, with its samples as they stand.
type level struct {
	list
	samples []int
}

// over has a list at work.
func over(l list) level {
	v := level{list: l}
	for number := range thirds.Many(len(l)) {
		v.samples = append(v.samples, thirds.Place(number, len(l)))
	}
	return v
}

// triples tells those of the samples.
func (v level) triples() []triple {
	l := make([]triple, 0, len(v.samples))
	for _, place := range v.samples {
		l = append(l, triple{v.at(place), v.at(place + 1), v.at(place + 2)})
	}
	return l
}

// reduce tells the samples' names, and how many there are.
func (v level) reduce() (list, int) {
	triples := v.triples()
	known := slices.Compact(slices.SortedFunc(slices.Values(triples), compare))
	names := make(list, 0, len(triples))
	for _, t := range triples {
		at, _ := slices.BinarySearchFunc(known, t, compare)
		names = append(names, uint64(at)+1)
	}
	return names, len(known)
}

// ends tells the order of the list's ends. Names that are all unlike tell that of the reduced list's by themselves; else that list, which is the shorter one, is made less again.
func (v level) ends() []int {
	reduced, names := v.reduce()
	if names < len(reduced) {
		return v.expand(over(reduced).ends())
	}
	rows := make([]int, 0, len(reduced))
	for _, name := range reduced {
		rows = append(rows, int(name)-1)
	}
	ends, _ := order.Inverse(rows)
	return v.expand(ends)
}

// expand tells the order of the list's ends by that of the reduced list's.
func (v level) expand(ends []int) []int {
	k := v.know(ends)
	out := make([]int, 0, len(v.list))
	firsts := k.firsts()
	for _, end := range ends {
		place := v.samples[end]
		for len(firsts) > 0 && compare(k.key(firsts[0], place%3), k.key(place, place%3)) < 0 {
			out, firsts = append(out, firsts[0]), firsts[1:]
		}
		// Of the places that leave 1 the one behind the list is no end's.
		if place < len(v.list) {
			out = append(out, place)
		}
	}
	return append(out, firsts...)
}

// known is a level whose samples' ends are in order: rows tells at each one's place how many of them are no greater, and 0 at the other places.
type known struct {
	level
	rows list
}

// know has a level be known by the order of the reduced list's ends.
func (v level) know(ends []int) known {
	k := known{level: v, rows: make(list, len(v.list)+1)}
	for row, end := range ends {
		k.rows[v.samples[end]] = uint64(row) + 1
	}
	return k
}

// firsts tells the places that leave 0, in the order of their ends.
func (k known) firsts() []int {
	places := []int{}
	for place := 0; place < len(k.list); place += 3 {
		places = append(places, place)
	}
	slices.SortFunc(places, func(a, b int) int { return compare(k.key(a, 1), k.key(b, 1)) })
	return places
}

// key tells by what the end of a place is held against that of a sample that leaves rest: its number, or its first two, and the row of the end behind, which is a sample's, or empty, of both.
func (k known) key(place, rest int) triple {
	if rest == 1 {
		return triple{k.at(place), k.rows.at(place + 1)}
	}
	return triple{k.at(place), k.at(place + 1), k.rows.at(place + 2)}
}
