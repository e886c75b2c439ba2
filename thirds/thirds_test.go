package thirds_test

import (
	"slices"
	"testing"

	"wringer/api"
	"wringer/thirds"
)

// samples are those of a list of so many, as they stand, by the words of chapter 13.
func samples(many int) []int {
	ones, twos := []int{}, []int{}
	for place := range many {
		switch place % 3 {
		case 1:
			ones = append(ones, place)
		case 2:
			twos = append(twos, place)
		}
	}
	if many%3 == 1 {
		ones = append(ones, many)
	}
	return append(ones, twos...)
}

func TestSamples(t *testing.T) {
	sizes := []int{api.MaxPlain - 1, api.MaxPlain, api.MaxCount - 1, api.MaxCount}
	for many := range 200 {
		sizes = append(sizes, many)
	}
	for _, many := range sizes {
		want := samples(many)
		if got := thirds.Many(many); got != len(want) {
			t.Fatalf("of %d numbers there are %d samples, where there should be %d", many, got, len(want))
		}
		for number, place := range want {
			if got := thirds.Place(number, many); got != place {
				t.Fatalf("of %d numbers the sample %d stands at %d, where it should be at %d", many, number, got, place)
			}
			if got, is := thirds.Number(place, many); got != number || !is {
				t.Fatalf("of %d numbers the place %d has the number %d, %v, where it should be %d", many, place, got, is, number)
			}
		}
		slices.Sort(want)
		for place := -4; place <= many+4; place++ {
			if _, isOne := slices.BinarySearch(want, place); isOne {
				continue
			}
			if got, is := thirds.Number(place, many); got != 0 || is {
				t.Fatalf("of %d numbers the place %d has the number %d, %v, where it is no sample", many, place, got, is)
			}
		}
	}
}
