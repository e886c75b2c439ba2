package zeros

import "wringer/api"

// lastDigit is the greatest of a number's digits, less 1.
const lastDigit = 1

// Digits tells a number's digits, each less 1.
func Digits(n uint64) ([]uint64, api.Errno) {
	if n == 0 || n > api.MaxText {
		return nil, api.ErrRange
	}
	return digits(n), api.OK
}

// digits are those of a number: less 1 it is even where its next digit is 1, and half of it is left either way.
func digits(n uint64) []uint64 {
	l := []uint64{}
	for n > 0 {
		n--
		l = append(l, n%2)
		n /= 2
	}
	return l
}

// Number tells the number whose digits, each less 1, are told.
func Number(digits ...uint64) (uint64, api.Errno) {
	if len(digits) == 0 {
		return 0, api.ErrCode
	}
	sum := tally{worth: 1}
	for _, d := range digits {
		if d > lastDigit {
			return 0, api.ErrCode
		}
		sum.add(d + 1)
	}
	if sum.number > api.MaxText {
		return 0, api.ErrFull
	}
	return sum.number, api.OK
}

// tally is a number whose digits come one by one, and what the next one is worth.
type tally struct {
	number, worth uint64
}

// add counts a digit; past MaxText neither number grows any more, so that any many digits may come.
func (t *tally) add(digit uint64) {
	t.number = min(t.number+digit*t.worth, api.MaxText+1)
	t.worth = min(2*t.worth, api.MaxText+1)
}
