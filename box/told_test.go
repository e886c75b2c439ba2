package box_test

import (
	"encoding/binary"
	"hash/crc32"
	"math/rand/v2"
	"slices"
	"strings"

	"wringer/api"
	"wringer/segs"
)

// letters makes a text of so many bytes, of as many letters as are told, the same at each run.
func letters(many, of int) string {
	r := rand.New(rand.NewPCG(uint64(many), uint64(of)))
	text := make([]byte, many)
	for i := range text {
		text[i] = byte(256 - of + r.IntN(of))
	}
	return string(text)
}

// someBits are so many, the same at each run; those behind the last one are 0.
func someBits(n int) api.Bitstr {
	bytes := []byte(letters((n+7)/8, 256))
	if n%8 > 0 {
		bytes[n/8] &= ^(255 >> (n % 8))
	}
	return api.Bitstr{B: string(bytes), N: n}
}

// sumOf tells a sum of bytes.
func sumOf(s string) uint32 { return crc32.ChecksumIEEE([]byte(s)) }

// five are a number's bytes, the highest first.
func five(n uint64) string { return string(binary.BigEndian.AppendUint64(nil, n)[3:]) }

// four are a sum's bytes, the lowest first.
func four(sum uint32) string { return string(binary.LittleEndian.AppendUint32(nil, sum)) }

// summed is a text with its sum's bytes behind it.
func summed(s string) string { return s + four(sumOf(s)) }

// again is a container's bytes with the sum of it all made right again.
func again(s string) string { return summed(s[:len(s)-4]) }

// sealed are the bytes of a head and of any others, by the words of chapter 24.
func sealed(h api.Head, bytes string) string {
	return summed("WRG\x01" + five(h.Count) + five(h.Primary) + four(h.Sum) + five(h.Segs) + five(h.Bits) + bytes)
}

// column is a text's last one, by the words of chapter 12, and the primary.
func column(text string) (string, int) {
	ends := []int{}
	for at := range len(text) + 1 {
		ends = append(ends, at)
	}
	slices.SortFunc(ends, func(a, b int) int { return strings.Compare(text[a:], text[b:]) })
	bytes, primary := []byte{}, 0
	for row, end := range ends {
		if end == 0 {
			primary = row
		} else {
			bytes = append(bytes, text[end-1])
		}
	}
	return string(bytes), primary
}

// head is that of a column's container, of which the text's sum is told, and its bits.
func head(column string, primary int, sum uint32) (api.Head, api.Bitstr) {
	b, count, _ := segs.All(column)
	return api.Head{Count: uint64(len(column)), Primary: uint64(primary), Sum: sum, Segs: uint64(count), Bits: uint64(b.N)}, b
}

// told are the head and the bits of a text's container.
func told(text string) (api.Head, api.Bitstr) {
	bytes, primary := column(text)
	return head(bytes, primary, sumOf(text))
}

// texts are some of many kinds and sizes, up to MaxPlain bytes.
func texts() []string {
	l := []string{"", "\x00", "a", "\xff", "ab", "ba", "aaaa", "banana", "mississippi", strings.Repeat("ab", 300), strings.Repeat("\x00", api.MaxPlain), strings.Repeat("\xff\x00", api.MaxPlain/2)}
	for _, many := range []int{2, 3, 10, 100, 511, 512, 513, 1024, 1025, api.MaxPlain - 1, api.MaxPlain} {
		l = append(l, letters(many, 1), letters(many, 2), letters(many, 30), letters(many, 256))
	}
	return l
}
