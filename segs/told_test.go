package segs_test

import (
	"math/rand/v2"
	"slices"
	"strconv"
	"strings"

	"wringer/api"
	"wringer/pack"
)

// bitsOf packs a text of 0 and 1, one bit at a time.
func bitsOf(s string) api.Bitstr {
	bytes := make([]byte, (len(s)+7)/8)
	for i := range len(s) {
		if s[i] == '1' {
			bytes[i/8] += 128 >> (i % 8)
		}
	}
	return api.Bitstr{B: string(bytes), N: len(s)}
}

// digits writes a number's bits, the highest one first.
func digits(v uint64, width int) string {
	s := strconv.FormatUint(v, 2)
	return strings.Repeat("0", max(0, width-len(s))) + s
}

// some makes a text of 0 and 1, the same at each run.
func some(n int, seed uint64) string {
	r := rand.New(rand.NewPCG(seed, 23))
	s := make([]byte, n)
	for i := range s {
		s[i] = '0' + byte(r.IntN(2))
	}
	return string(s)
}

// letters makes a text of so many bytes, of as many letters as are told, the same at each run.
func letters(many, of int) string {
	r := rand.New(rand.NewPCG(uint64(many), uint64(of)))
	text := make([]byte, many)
	for i := range text {
		text[i] = byte(256 - of + r.IntN(of))
	}
	return string(text)
}

// fresh is the row of the bytes as they rise.
func fresh() string {
	row := []byte{}
	for c := range 256 {
		row = append(row, byte(c))
	}
	return string(row)
}

// anyRow makes a row, another one of each number.
func anyRow(number uint64) string {
	row := []byte(fresh())
	r := rand.New(rand.NewPCG(23, number))
	r.Shuffle(len(row), func(i, j int) { row[i], row[j] = row[j], row[i] })
	return string(row)
}

// isRow tells whether a text has each byte once.
func isRow(row string) bool {
	for c := range 256 {
		if strings.Count(row, string([]byte{byte(c)})) != 1 {
			return false
		}
	}
	return len(row) == 256
}

// moved tells how far each byte is, it being moved to the front then, by the words of chapter 18, and the row behind all.
func moved(row, text string) ([]byte, string) {
	far := []byte{}
	for _, c := range []byte(text) {
		ahead, behind, _ := strings.Cut(row, string([]byte{c}))
		far, row = append(far, byte(len(ahead))), string([]byte{c})+ahead+behind
	}
	return far, row
}

// unmoved tells the text whose bytes are so far, and the row behind all.
func unmoved(row string, far []byte) (string, string) {
	text := []byte{}
	for _, one := range far {
		at := int(one)
		c := row[at : at+1]
		text, row = append(text, c...), c+row[:at]+row[at+1:]
	}
	return string(text), row
}

// counted are a number's digits, each less 1, by the words of chapter 19.
func counted(n int) []uint64 {
	l := []uint64{}
	for n > 0 {
		digit := 2 - n%2
		l, n = append(l, uint64(digit-1)), (n-digit)/2
	}
	return l
}

// symbols are those of how far bytes are, by the words of chapter 19.
func symbols(far []byte) []uint64 {
	l, run := []uint64{}, 0
	for _, c := range far {
		if c == 0 {
			run++
			continue
		}
		l, run = append(append(l, counted(run)...), uint64(c)+1), 0
	}
	return append(append(l, counted(run)...), api.EndSymbol)
}

// weights tell how often each of NumSymbols symbols is among some.
func weights(l []uint64) []uint64 {
	w := make([]uint64, 258)
	for _, symbol := range l {
		w[symbol]++
	}
	return w
}

// lengths are a segment's that has these symbols.
func lengths(l []uint64) []int {
	cheapest, _ := pack.Lengths(weights(l), 15)
	return cheapest
}

// table is a text of the bits of lengths, by the words of chapter 22.
func table(lengths []int) string {
	s, ahead := digits(uint64(lengths[0]), 4), lengths[0]
	for _, length := range lengths {
		s += strings.Repeat("10", max(0, length-ahead)) + strings.Repeat("11", max(0, ahead-length)) + "0"
		ahead = length
	}
	return s
}

// codes are those of right lengths as texts, by the words of chapter 21: "", of a symbol that has none.
func codes(lengths []int) []string {
	l, code, ahead := make([]string, len(lengths)), uint64(0), 0
	for long := 1; long <= 15; long++ {
		for symbol, length := range lengths {
			if length != long {
				continue
			}
			if ahead > 0 {
				code = (code + 1) << (long - ahead)
			}
			l[symbol], ahead = digits(code, long), long
		}
	}
	return l
}

// coded is a text of the bits of lengths, and of the codes of symbols behind them, whether these are a segment's or not.
func coded(lengths []int, symbols []uint64) string {
	s, l := table(lengths), codes(lengths)
	for _, symbol := range symbols {
		s += l[symbol]
	}
	return s
}

// told is a text of a segment's bits, by the words of chapter 23, and the row behind it.
func told(row, text string) (string, string) {
	far, behind := moved(row, text)
	l := symbols(far)
	return coded(lengths(l), l), behind
}

// isRight tells whether NumSymbols lengths are, by the words of chapter 21.
func isRight(lengths []int) bool {
	taken, above, ones := 0, 0, 0
	for _, length := range lengths {
		if length > 0 {
			taken += 32768 >> length
			above++
		}
		if length == 1 {
			ones++
		}
	}
	return taken == 32768 || above == 1 && ones == 1 || above == 0
}

// readTable tells NumSymbols lengths whose bits stand at a place, by the words of chapter 22, and the place behind them.
func readTable(s string, at int) ([]int, int, api.Errno) {
	if len(s)-at < 4 {
		return nil, 0, api.ErrShort
	}
	first, _ := strconv.ParseInt(s[at:at+4], 2, 0)
	at += 4
	l, ahead := []int{}, int(first)
	for len(l) < 258 {
		ups, downs := 0, 0
		for at < len(s) && s[at] == '1' {
			switch {
			case at+1 == len(s):
				return nil, 0, api.ErrShort
			case s[at+1] == '0':
				ups++
			default:
				downs++
			}
			at += 2
			if ups > 0 && downs > 0 || ahead+ups > 15 || ahead-downs < 0 {
				return nil, 0, api.ErrCode
			}
		}
		if at == len(s) {
			return nil, 0, api.ErrShort
		}
		at++
		if len(l) == 0 && ups+downs > 0 {
			return nil, 0, api.ErrCode
		}
		ahead += ups - downs
		l = append(l, ahead)
	}
	if !isRight(l) {
		return nil, 0, api.ErrCode
	}
	return l, at, api.OK
}

// readCode tells the symbol whose code stands at a place, by the words of chapter 21, and the place behind it.
func readCode(s string, at int, codes []string) (int, int, api.Errno) {
	e := api.ErrCode
	for symbol, code := range codes {
		if code == "" {
			continue
		}
		if strings.HasPrefix(s[at:], code) {
			return symbol, at + len(code), api.OK
		}
		if strings.HasPrefix(code, s[at:]) {
			e = api.ErrShort
		}
	}
	return 0, 0, e
}

// read tells what Decode does of a text and a right row, by the words of chapter 23.
func read(s string, at int, row string) (api.Coded, api.Errno) {
	if at < 0 || at > len(s) {
		return api.Coded{}, api.ErrRange
	}
	own, at, e := readTable(s, at)
	if e != api.OK {
		return api.Coded{}, e
	}
	l, far, run, worth := codes(own), []byte{}, 0, 1
	for all := []uint64{}; ; {
		symbol, behind, e := readCode(s, at, l)
		if e != api.OK {
			return api.Coded{}, e
		}
		at, all = behind, append(all, uint64(symbol))
		if symbol <= 1 {
			run, worth = min(run+(symbol+1)*worth, 9999), min(2*worth, 9999)
			continue
		}
		far = append(far, make([]byte, run)...)
		run, worth = 0, 1
		if symbol < 257 {
			far = append(far, byte(symbol-1))
		}
		if len(far) > 512 {
			return api.Coded{}, api.ErrCode
		}
		if symbol < 257 {
			continue
		}
		if len(far) == 0 || !slices.Equal(own, lengths(all)) {
			return api.Coded{}, api.ErrCode
		}
		text, behindAll := unmoved(row, far)
		return api.Coded{Text: text, Row: behindAll, At: at}, api.OK
	}
}

// whole is a text of the bits of a text's segments, by the words of chapter 23, and how many there are.
func whole(text string) (string, int) {
	s, row, count := "", fresh(), 0
	for len(text) > 0 {
		one, behind := told(row, text[:min(512, len(text))])
		s, row, text, count = s+one, behind, text[min(512, len(text)):], count+1
	}
	return s, count
}

// back tells what Back does of a text, by the words of chapter 23.
func back(s string, count int) (string, api.Errno) {
	if count < 0 || count > 65536 {
		return "", api.ErrRange
	}
	text, at, row := "", 0, fresh()
	for i := range count {
		c, e := read(s, at, row)
		if e != api.OK {
			return "", e
		}
		text, at, row = text+c.Text, c.At, c.Row
		if i < count-1 && len(c.Text) != 512 || len(text) > 65536 {
			return "", api.ErrCode
		}
	}
	if at < len(s) {
		return "", api.ErrCode
	}
	return text, api.OK
}
