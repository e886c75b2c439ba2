package segs

import (
	"wringer/api"
	"wringer/canon"
	"wringer/mtf"
	"wringer/pack"
	"wringer/table"
	"wringer/zeros"
)

// tally is how often each symbol was counted.
type tally [api.NumSymbols]uint64

// add counts a symbol.
func (t *tally) add(symbol uint64) { t[symbol]++ }

// cheapest are the lengths of a segment that has each symbol so often.
func (t *tally) cheapest() ([]int, api.Errno) { return pack.Lengths(t[:], api.MaxLength) }

// kept are symbols in order, and how often each one is among them.
type kept struct {
	tally
	symbols []uint64
}

// keep has a symbol stand behind those that are kept.
func (k *kept) keep(symbol uint64) {
	k.add(symbol)
	k.symbols = append(k.symbols, symbol)
}

// gather has each of a segment's symbols be gathered, in order, and tells the row behind it.
func gather(row, text string, one func(symbol uint64)) (string, api.Errno) {
	if e := mtf.Check(row); e != api.OK {
		return "", e
	}
	if len(text) == 0 || len(text) > api.SegSize {
		return "", api.ErrRange
	}
	far, behind, e := mtf.Move(row, text)
	if e != api.OK {
		return "", e
	}
	symbols, e := zeros.Encode(far)
	if e != api.OK {
		return "", e
	}
	for _, symbol := range symbols {
		one(symbol)
	}
	return behind, api.OK
}

// segmentBits are a segment's, and the row behind it.
func segmentBits(row, text string) (api.Bitstr, string, api.Errno) {
	k := kept{}
	behind, e := gather(row, text, k.keep)
	if e != api.OK {
		return api.Bitstr{}, "", e
	}
	lengths, e := k.cheapest()
	if e != api.OK {
		return api.Bitstr{}, "", e
	}
	b, e := table.Write(api.Bitstr{}, lengths)
	if e != api.OK {
		return api.Bitstr{}, "", e
	}
	b, e = canon.Write(b, lengths, k.symbols...)
	return b, behind, e
}
