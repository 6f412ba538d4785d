package space_test

import (
	"math/big"

	"slabvault/api"
)

// A second reading of the chapter: what is meant as whole numbers is reckoned in whole numbers of any size, and tuples are gone through by loops within loops.

// whole tells a number that may become as great as it likes.
func whole(n int) *big.Int { return big.NewInt(int64(n)) }

// isAbove tells whether a whole number is above a limit.
func isAbove(n *big.Int, limit int) bool { return n.Cmp(whole(limit)) > 0 }

// times tells the product of all numbers of some lists.
func times(lists ...[]int) *big.Int {
	p := whole(1)
	for _, l := range lists {
		for _, n := range l {
			p.Mul(p, whole(n))
		}
	}
	return p
}

// modelElements is P12.1.
func modelElements(dims []int) (int, api.Errno) {
	if len(dims) > api.MaxRank {
		return 0, api.ErrArg
	}
	for _, n := range dims {
		if n < 0 || n > api.MaxDim {
			return 0, api.ErrArg
		}
	}
	n := times(dims)
	if isAbove(n, api.MaxDim) {
		return 0, api.ErrBig
	}
	return int(n.Int64()), api.OK
}

// modelTuples is P12.2 and P12.3: the error, or the tuples.
func modelTuples(dims []int, s api.Selection) ([][]int, api.Errno) {
	n, e := modelElements(dims)
	switch {
	case e != api.OK:
		return nil, e
	case s.Kind == api.SelAll && n > api.MaxSelect:
		return nil, api.ErrTooBig
	case s.Kind == api.SelAll:
		var l [][]int
		for p := range n {
			l = append(l, tupleAt(dims, p))
		}
		return l, api.OK
	case s.Kind == api.SelPoints:
		return modelPoints(dims, s.Points)
	case s.Kind == api.SelSlab:
		return modelSlab(dims, s)
	}
	return nil, api.ErrArg
}

func modelPoints(dims []int, l [][]int) ([][]int, api.Errno) {
	isOutside := false
	for _, p := range l {
		if len(p) != len(dims) {
			return nil, api.ErrArg
		}
		for d, n := range p {
			if n < 0 {
				return nil, api.ErrArg
			}
			isOutside = isOutside || n >= dims[d]
		}
	}
	switch {
	case isOutside:
		return nil, api.ErrSelection
	case len(l) > api.MaxSelect:
		return nil, api.ErrTooBig
	}
	return l, api.OK
}

func modelSlab(dims []int, s api.Selection) ([][]int, api.Errno) {
	for _, l := range [][]int{s.Start, s.Stride, s.Count, s.Block} {
		if len(l) != len(dims) {
			return nil, api.ErrArg
		}
		for _, n := range l {
			if n < 0 {
				return nil, api.ErrArg
			}
		}
	}
	n := times(s.Count, s.Block)
	if n.Sign() == 0 {
		return nil, api.OK
	}
	for d := range dims {
		last := new(big.Int).Mul(whole(s.Count[d]-1), whole(s.Stride[d]))
		last.Add(last, whole(s.Start[d])).Add(last, whole(s.Block[d]-1))
		if last.Cmp(whole(dims[d])) >= 0 {
			return nil, api.ErrSelection
		}
	}
	if isAbove(n, api.MaxSelect) {
		return nil, api.ErrTooBig
	}
	return slabFrom(s, nil), api.OK
}

// slabFrom tells the tuples of a hyperslab that begin with such numbers.
func slabFrom(s api.Selection, ahead []int) [][]int {
	d := len(ahead)
	if d == len(s.Start) {
		return [][]int{ints(ahead...)}
	}
	var l [][]int
	for i := range s.Count[d] {
		for j := range s.Block[d] {
			l = append(l, slabFrom(s, append(ints(ahead...), s.Start[d]+i*s.Stride[d]+j))...)
		}
	}
	return l
}

// modelPlace tells the place of a tuple: for each dimension as many times the tuples of those behind it as its number says.
func modelPlace(dims, tuple []int) int {
	p := 0
	for d, n := range tuple {
		p += n * int(times(dims[d+1:]).Int64())
	}
	return p
}
