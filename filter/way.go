package filter

import (
	"bytes"

	"slabvault/api"
	"slabvault/check"
	"slabvault/match"
	"slabvault/octet"
	"slabvault/shuffle"
)

// maxWidth is the width of the widest numbers that a filter goes through.
const maxWidth = 8

// sumWidth is how many bytes a sum has behind what it is the sum of.
const sumWidth = 4

// step tells what becomes of bytes; the width is that of a filter of numbers.
type step func(width int, b []byte) ([]byte, api.Errno)

// way is what a filter does, and how it is undone.
type way struct {
	do, undo step
}

// mayBe says whether a filter may be.
func mayBe(f api.Filter) bool {
	switch f.Kind {
	case api.FilterShuffle, api.FilterDelta:
		return 1 <= f.Width && f.Width <= maxWidth
	case api.FilterMatch, api.FilterSum:
		return f.Width == 0
	}
	return false
}

// wayOf tells the way of a filter that may be, so of no other kind than these.
func wayOf(kind api.FilterKind) way {
	switch kind {
	case api.FilterShuffle:
		return way{do: shuffle.Shuffle, undo: shuffle.Unshuffle}
	case api.FilterDelta:
		return way{do: shuffle.Delta, undo: shuffle.Undelta}
	case api.FilterMatch:
		return way{do: pack, undo: unpack}
	default:
		return way{do: addSum, undo: dropSum}
	}
}

func pack(_ int, b []byte) ([]byte, api.Errno) { return match.Pack(b) }

// unpack takes what is longer than a chunk too: only behind the last filter is it known how many bytes there should be.
func unpack(_ int, b []byte) ([]byte, api.Errno) { return match.Unpack(b, api.MaxData) }

// addSum tells bytes with their sum behind them.
func addSum(_ int, b []byte) ([]byte, api.Errno) {
	return octet.Put(b, sumWidth, true, uint64(check.Fletcher(b)))
}

// dropSum tells the bytes that stand ahead of their sum.
func dropSum(_ int, b []byte) ([]byte, api.Errno) {
	if len(b) < sumWidth {
		return nil, api.ErrCorrupt
	}
	end := len(b) - sumWidth
	sum, e := octet.Get(b, end, sumWidth, true)
	if e != api.OK || sum != uint64(check.Fletcher(b[:end])) {
		return nil, api.ErrCorrupt
	}
	return bytes.Clone(b[:end]), api.OK
}
