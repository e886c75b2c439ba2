package order

import (
	"cmp"
	"iter"
	"slices"
)

// none is no place, no row and no rank: it stands ahead of all of these, as the empty end does.
const none = -1

// ranks tells of each thing of a list how many unlike ones of it are less.
func ranks[T cmp.Ordered](l []T) []int {
	known := slices.Compact(slices.Sorted(slices.Values(l)))
	out := make([]int, 0, len(l))
	for _, thing := range l {
		rank, _ := slices.BinarySearch(known, thing)
		out = append(out, rank)
	}
	return out
}

// sorted tells the order of the ends of a list of ranks. Each time that it is gone through, ends are held against each other by twice as much of them, until no two are alike.
func sorted(ranks []int) []int {
	ends := make([]int, len(ranks))
	for place := range ends {
		ends[place] = place
	}
	unlike := 0
	for span := 1; unlike < len(ends); span *= 2 {
		compare := against(ranks, span)
		slices.SortFunc(ends, compare)
		ranks, unlike = rerank(ends, compare)
	}
	return ends
}

// against tells what holds two ends against each other: by their ranks, which are of as many things as span, and by those of what is behind these.
func against(ranks []int, span int) func(a, b int) int {
	behind := func(end int) int {
		if end+span < len(ranks) {
			return ranks[end+span]
		}
		return none
	}
	return func(a, b int) int {
		return cmp.Or(cmp.Compare(ranks[a], ranks[b]), cmp.Compare(behind(a), behind(b)))
	}
}

// rerank tells the ranks of ends that are in order, as far as compare can tell, and how many of them are unlike.
func rerank(ends []int, compare func(a, b int) int) ([]int, int) {
	ranks, unlike := make([]int, len(ends)), 0
	for row, end := range ends {
		if row == 0 || compare(ends[row-1], end) != 0 {
			unlike++
		}
		ranks[end] = unlike
	}
	return ranks, unlike
}

// less tells what tells whether one end of a list is less than another one, the end of each place having the row that is told.
func less(l []uint64, rows []int) func(a, b int) bool {
	behind := func(end int) int {
		if end+1 < len(rows) {
			return rows[end+1]
		}
		return none
	}
	return func(a, b int) bool {
		return l[a] < l[b] || l[a] == l[b] && behind(a) < behind(b)
	}
}

// leads tells to which row each one leads: to that of the end that has the row's byte ahead of the row's own. The primary leads nowhere.
func leads(bytes []byte, primary int) []int {
	next := [256]int{}
	for row, c := range bytes {
		if row != primary {
			next[c]++
		}
	}
	// Behind the empty end's row stand those of the ends that begin with the least byte, and so on.
	first := 1
	for c, many := range next {
		next[c], first = first, first+many
	}
	to := make([]int, 0, len(bytes))
	for row, c := range bytes {
		if row == primary {
			to = append(to, none)
			continue
		}
		to = append(to, next[c])
		next[c]++
	}
	return to
}

// shared goes over a list's places as they rise, and tells of each one's end its row, and how many numbers it has in common with the end of the row ahead. From one place to the next that is no more than one less: what is known to be in common is not looked at again.
func shared(l []uint64, ends []int) iter.Seq2[int, int] {
	return func(yield func(int, int) bool) {
		rows, _ := Inverse(ends)
		many := 0
		for place, row := range rows {
			many = max(0, many-1)
			if row == 0 {
				many = 0
			} else {
				many = alike(l, place, ends[row-1], many)
			}
			if !yield(row, many) {
				return
			}
		}
	}
}

// alike tells how many numbers two ends have in common, of which at least so many are known.
func alike(l []uint64, a, b, known int) int {
	for max(a, b)+known < len(l) && l[a+known] == l[b+known] {
		known++
	}
	return known
}
