// Package thirds has which places of a list are its samples, and how these stand (see ../../shared/doc/13-skew.md).
package thirds

// Many tells how many samples a list of so many numbers has.
func Many(count int) int { return ones(count) + count/3 }

// Place tells the place of a sample of a list of so many numbers, by its number among them as they stand.
func Place(number, count int) int {
	if number < ones(count) {
		return 3*number + 1
	}
	return 3*(number-ones(count)) + 2
}

// Number tells which number a place has among the samples, as they stand, of a list of so many numbers, and whether it is one of them.
func Number(place, count int) (int, bool) {
	switch {
	case place%3 == 1 && place <= count:
		return place / 3, true
	case place%3 == 2 && place < count:
		return ones(count) + place/3, true
	}
	return 0, false
}

// ones tells how many of the samples leave 1: the place behind the last one is among them, if it does.
func ones(count int) int { return (count + 2) / 3 }
