package table_test

import (
	"math/rand/v2"
	"slices"
	"strconv"
	"strings"

	"wringer/api"
)

// bitsOf packs a text of 0 and 1, one bit at a time.
func bitsOf(s string) api.Bitstr {
	bytes := make([]byte, (len(s)+7)/8)
	for i := range len(s) {
		if s[i] == '1' {
			bytes[i/8] += 128 >> (i % 8)
		}
	}
	return api.Bitstr{B: string(bytes), N: len(s)}
}

// digits writes a number's bits, the highest one first.
func digits(v uint64, width int) string {
	s := strconv.FormatUint(v, 2)
	return strings.Repeat("0", max(0, width-len(s))) + s
}

// some makes a text of 0 and 1, the same at each run.
func some(n int, seed uint64) string {
	r := rand.New(rand.NewPCG(seed, 22))
	s := make([]byte, n)
	for i := range s {
		s[i] = '0' + byte(r.IntN(2))
	}
	return string(s)
}

// isRight tells whether lengths are, by the words of chapter 21.
func isRight(lengths []int) bool {
	taken, above, ones := 0, 0, 0
	for _, length := range lengths {
		if length < 0 || length > 15 {
			return false
		}
		if length > 0 {
			taken += 32768 >> length
			above++
		}
		if length == 1 {
			ones++
		}
	}
	return len(lengths) <= 512 && (taken == 32768 || above == 1 && ones == 1 || above == 0)
}

// told are the bits of lengths, by the words of chapter 22.
func told(lengths []int) string {
	s, ahead := digits(uint64(lengths[0]), 4), lengths[0]
	for _, length := range lengths {
		s += strings.Repeat("10", max(0, length-ahead)) + strings.Repeat("11", max(0, ahead-length)) + "0"
		ahead = length
	}
	return s
}

// read tells what Read does of right bits, by the words of chapter 22.
func read(s string, at, n int) ([]int, int, api.Errno) {
	if at < 0 || at > len(s) || n < 1 || n > 512 {
		return nil, 0, api.ErrRange
	}
	if len(s)-at < 4 {
		return nil, 0, api.ErrShort
	}
	first, _ := strconv.ParseInt(s[at:at+4], 2, 0)
	at += 4
	l, ahead := []int{}, int(first)
	for len(l) < n {
		ups, downs := 0, 0
		for at < len(s) && s[at] == '1' {
			switch {
			case at+1 == len(s):
				return nil, 0, api.ErrShort
			case s[at+1] == '0':
				ups++
			default:
				downs++
			}
			at += 2
			if ups > 0 && downs > 0 || ahead+ups > 15 || ahead-downs < 0 {
				return nil, 0, api.ErrCode
			}
		}
		if at == len(s) {
			return nil, 0, api.ErrShort
		}
		at++
		if len(l) == 0 && ups+downs > 0 {
			return nil, 0, api.ErrCode
		}
		ahead += ups - downs
		l = append(l, ahead)
	}
	if !isRight(l) {
		return nil, 0, api.ErrCode
	}
	return l, at, api.OK
}

// full makes lengths that leave no room, by halving codes, with some symbols between that have none.
func full(many, none int, seed uint64) []int {
	r := rand.New(rand.NewPCG(seed, 23))
	l := []int{1, 1}
	for len(l) < many {
		at := r.IntN(len(l))
		if l[at] < 15 {
			l[at]++
			l = append(l, l[at])
		}
	}
	for range none {
		l = slices.Insert(l, r.IntN(len(l)+1), 0)
	}
	r.Shuffle(len(l), func(i, j int) { l[i], l[j] = l[j], l[i] })
	return l
}

// alone is one length of 1 among others that are 0.
func alone(many, at int) []int {
	l := make([]int, many)
	l[at] = 1
	return l
}

// steep is one code of each length, and two of the longest.
func steep() []int {
	l := []int{}
	for length := 1; length <= api.MaxLength; length++ {
		l = append(l, length)
	}
	return append(l, api.MaxLength)
}

// rights are lengths that have bits, of many kinds: alike ones, and such that rise and fall, by one and by many.
func rights() [][]int {
	down := steep()
	slices.Reverse(down)
	l := [][]int{
		{0}, {1}, {0, 0}, {1, 0}, {0, 1}, {1, 1}, {0, 0, 1, 0}, {2, 1, 0, 2}, {2, 2, 2, 2}, {1, 2, 2}, {3, 1, 3, 2}, {1, 3, 3, 0, 3, 3},
		make([]int, api.MaxAlphabet), alone(api.MaxAlphabet, 0), alone(api.MaxAlphabet, api.MaxAlphabet-1), alone(api.NumSymbols, 7),
		steep(), down, append([]int{15}, steep()[:15]...), append(slices.Clone(down[:8]), append([]int{0, 0}, down[8:]...)...),
		{15, 0, 15, 1, 14, 2, 13, 3, 12, 4, 11, 5, 10, 6, 9, 7, 8}, {8, 8, 7, 6, 5, 4, 3, 2, 1}, append([]int{0}, down...),
		slices.Repeat([]int{9}, api.MaxAlphabet), slices.Repeat([]int{8, 0}, 256),
	}
	for many := 2; many < 60; many += 3 {
		l = append(l, full(many, many%7, uint64(many)))
	}
	return append(l, full(258, 0, 1), full(200, 58, 2), full(api.MaxAlphabet, 0, 3), full(400, api.MaxAlphabet-400, 4))
}
