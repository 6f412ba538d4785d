package filter_test

import (
	"encoding/binary"
	"math/big"
	"slices"

	"slabvault/api"
	"slabvault/match"
)

// The model is a second reading of the chapter, and of what it says of the layers below: of places in lists, whole numbers of any size, and sums of products. The match coder alone is the program's own.

// modelCheck asks what may be by what stands in a list.
func modelCheck(l []api.Filter) api.Errno {
	if len(l) > 4 {
		return api.ErrBig
	}
	for _, f := range l {
		if !slices.Contains(all(), f) {
			return api.ErrArg
		}
	}
	return api.OK
}

func modelApply(l []api.Filter, b []byte) ([]byte, api.Errno) {
	if e := modelCheck(l); e != api.OK {
		return nil, e
	}
	if len(b) > 4096 {
		return nil, api.ErrCap
	}
	for _, f := range l {
		b = modelDo(f, b)
	}
	return b, api.OK
}

func modelDo(f api.Filter, b []byte) []byte {
	switch f.Kind {
	case api.FilterShuffle:
		out := make([]byte, len(b))
		for i, p := range columns(f.Width, len(b)) {
			out[i] = b[p]
		}
		return out
	case api.FilterDelta:
		return reckoned(f.Width, b, func(now, ahead, _ *big.Int) *big.Int { return now.Sub(now, ahead) })
	case api.FilterMatch:
		p, _ := match.Pack(b)
		return p
	}
	return sealed(b)
}

func modelUndo(l []api.Filter, b []byte, n int) ([]byte, api.Errno) {
	if e := modelCheck(l); e != api.OK {
		return nil, e
	}
	if n < 0 || n > 4096 {
		return nil, api.ErrArg
	}
	good := true
	for _, f := range slices.Backward(l) {
		if b, good = modelBack(f, b); !good {
			return nil, api.ErrCorrupt
		}
	}
	if len(b) != n {
		return nil, api.ErrCorrupt
	}
	return b, api.OK
}

func modelBack(f api.Filter, b []byte) (out []byte, good bool) {
	switch f.Kind {
	case api.FilterShuffle:
		out := make([]byte, len(b))
		for i, p := range columns(f.Width, len(b)) {
			out[p] = b[i]
		}
		return out, true
	case api.FilterDelta:
		return reckoned(f.Width, b, func(now, _, told *big.Int) *big.Int { return now.Add(now, told) }), true
	case api.FilterMatch:
		out, e := match.Unpack(b, 65536)
		return out, e == api.OK
	}
	if len(b) < 4 || !slices.Equal(modelSum(b[:len(b)-4]), b[len(b)-4:]) {
		return nil, false
	}
	return b[:len(b)-4], true
}

// columns tells the places of so many bytes in the order in which Shuffle tells these: those of one rank, which are width apart, and then the rest.
func columns(width, length int) []int {
	var places []int
	end := length - length%width
	for rank := range width {
		for p := rank; p < end; p += width {
			places = append(places, p)
		}
	}
	for p := end; p < length; p++ {
		places = append(places, p)
	}
	return places
}

// reckoned tells bytes whose numbers are told of each one, the one ahead, and what was told of that.
func reckoned(width int, b []byte, do func(now, ahead, told *big.Int) *big.Int) []byte {
	out := slices.Clone(b)
	ahead, told := new(big.Int), new(big.Int)
	whole := new(big.Int).Lsh(big.NewInt(1), uint(8*width))
	for at := 0; at+width <= len(b); at += width {
		digits := slices.Clone(b[at : at+width])
		slices.Reverse(digits)
		now := new(big.Int).SetBytes(digits)
		told = new(big.Int).Mod(do(new(big.Int).Set(now), ahead, told), whole)
		told.FillBytes(digits)
		slices.Reverse(digits)
		copy(out[at:], digits)
		ahead = now
	}
	return out
}

// modelSum tells Fletcher's sum in its four bytes: the second number has each byte as often as there are bytes from it on.
func modelSum(b []byte) []byte {
	first, second := 0, 0
	for i, x := range b {
		first += int(x)
		second += int(x) * (len(b) - i)
	}
	out := binary.BigEndian.AppendUint16(nil, uint16(second%65535))
	return binary.BigEndian.AppendUint16(out, uint16(first%65535))
}
