package canon_test

import (
	"math/rand/v2"
	"slices"
	"strconv"
	"strings"

	"wringer/api"
)

// bitsOf packs a text of 0 and 1, one bit at a time.
func bitsOf(s string) api.Bitstr {
	bytes := make([]byte, (len(s)+7)/8)
	for i := range len(s) {
		if s[i] == '1' {
			bytes[i/8] += 128 >> (i % 8)
		}
	}
	return api.Bitstr{B: string(bytes), N: len(s)}
}

// some makes a text of 0 and 1, the same at each run.
func some(n int, seed uint64) string {
	r := rand.New(rand.NewPCG(seed, 21))
	s := make([]byte, n)
	for i := range s {
		s[i] = '0' + byte(r.IntN(2))
	}
	return string(s)
}

// isRight tells whether lengths are, by the words of chapter 21: of codes of each length there are as many as halves, quarters and so on of the whole.
func isRight(lengths []int) bool {
	taken, above, ones := 0, 0, 0
	for _, length := range lengths {
		if length < 0 || length > 15 {
			return false
		}
		if length > 0 {
			taken += 32768 >> length
			above++
		}
		if length == 1 {
			ones++
		}
	}
	return len(lengths) <= 512 && (taken == 32768 || above == 1 && ones == 1 || above == 0)
}

// more is one more than a number's digits.
func more(digits string) string {
	zero := strings.LastIndexByte(digits, '0')
	return digits[:zero] + "1" + strings.Repeat("0", len(digits)-zero-1)
}

// codes are those of right lengths as texts, by the words of chapter 21: "", of a symbol that has none.
func codes(lengths []int) []string {
	l, last := make([]string, len(lengths)), ""
	for long := 1; long <= 15; long++ {
		for symbol, length := range lengths {
			if length != long {
				continue
			}
			if last != "" {
				last = more(last)
			}
			last += strings.Repeat("0", long-len(last))
			l[symbol] = last
		}
	}
	return l
}

// number is that of a text of 0 and 1.
func number(s string) uint64 {
	v, _ := strconv.ParseUint("0"+s, 2, 64)
	return v
}

// written is a text with the symbols' codes behind, by the words of chapter 21.
func written(s string, lengths []int, symbols []uint64) (string, api.Errno) {
	l, whole := codes(lengths), s
	for _, symbol := range symbols {
		switch {
		case symbol >= uint64(len(l)):
			return s, api.ErrRange
		case l[symbol] == "":
			return s, api.ErrNone
		case len(whole)+len(l[symbol]) > api.MaxBits:
			return s, api.ErrFull
		}
		whole += l[symbol]
	}
	return whole, api.OK
}

// read tells what Read does of a text and right lengths, by the words of chapter 21.
func read(s string, at int, lengths []int) (uint64, int, api.Errno) {
	if at < 0 || at > len(s) {
		return 0, 0, api.ErrRange
	}
	e := api.ErrCode
	for symbol, code := range codes(lengths) {
		if code == "" {
			continue
		}
		if strings.HasPrefix(s[at:], code) {
			return uint64(symbol), at + len(code), api.OK
		}
		if strings.HasPrefix(code, s[at:]) {
			e = api.ErrShort
		}
	}
	return 0, 0, e
}

// full makes lengths that leave no room, by halving codes, with some symbols between that have none.
func full(many, none int, seed uint64) []int {
	r := rand.New(rand.NewPCG(seed, 22))
	l := []int{1, 1}
	for len(l) < many {
		at := r.IntN(len(l))
		if l[at] < 15 {
			l[at]++
			l = append(l, l[at])
		}
	}
	for range none {
		l = slices.Insert(l, r.IntN(len(l)+1), 0)
	}
	r.Shuffle(len(l), func(i, j int) { l[i], l[j] = l[j], l[i] })
	return l
}

// alone is one length among others that are 0.
func alone(many, at, length int) []int {
	l := make([]int, many)
	l[at] = length
	return l
}

// steep is one code of each length, and two of the longest.
func steep() []int {
	l := []int{}
	for length := 1; length <= api.MaxLength; length++ {
		l = append(l, length)
	}
	return append(l, api.MaxLength)
}

// rights are lengths that are right, of many kinds.
func rights() [][]int {
	down := steep()
	slices.Reverse(down)
	l := [][]int{
		nil, {}, {0}, {0, 0, 0}, make([]int, api.MaxAlphabet),
		{1}, {1, 0}, {0, 1}, {0, 0, 1, 0}, alone(api.MaxAlphabet, 0, 1), alone(api.MaxAlphabet, api.MaxAlphabet-1, 1),
		{1, 1}, {0, 1, 0, 1, 0}, {2, 1, 0, 2}, {1, 2, 2}, {2, 2, 1}, {2, 2, 2, 2}, {3, 1, 3, 2}, {3, 3, 3, 3, 1}, {1, 3, 3, 3, 3}, {4, 4, 4, 4, 2, 2, 2},
		{1, 4, 4, 4, 4, 4, 4, 4, 4}, {5, 5, 5, 5, 5, 5, 5, 5, 2, 2, 2},
		steep(), down, slices.Repeat([]int{9}, api.MaxAlphabet), slices.Repeat([]int{8, 0}, 256), append(slices.Repeat([]int{10}, 340), slices.Repeat([]int{8}, 171)...),
	}
	for many := 2; many < 60; many += 3 {
		l = append(l, full(many, many%7, uint64(many)))
	}
	return append(l, full(258, 0, 1), full(200, 58, 2), full(api.MaxAlphabet, 0, 3), full(400, api.MaxAlphabet-400, 4))
}
