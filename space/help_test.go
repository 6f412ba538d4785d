package space_test

import (
	"fmt"
	"math"
	"slices"
	"testing"

	"slabvault/api"
	"slabvault/space"
)

// most is the greatest number that there is.
const most = math.MaxInt

// ints tells a list of numbers; without one it is empty, but not nil.
func ints(l ...int) []int { return append([]int{}, l...) }

// same tells a list of a number that stands so many times.
func same(n, times int) []int { return slices.Repeat([]int{n}, times) }

// all tells the selection of all tuples.
func all() api.Selection { return api.Selection{Kind: api.SelAll} }

// points tells the selection of such tuples.
func points(l ...[]int) api.Selection { return api.Selection{Kind: api.SelPoints, Points: l} }

// slab tells a hyperslab.
func slab(start, stride, count, block []int) api.Selection {
	return api.Selection{Kind: api.SelSlab, Start: start, Stride: stride, Count: count, Block: block}
}

// line tells a hyperslab of one dimension.
func line(start, stride, count, block int) api.Selection {
	return slab(ints(start), ints(stride), ints(count), ints(block))
}

// equal tells whether two lists of tuples are the same; nil and empty are.
func equal(a, b [][]int) bool { return slices.EqualFunc(a, b, slices.Equal[[]int]) }

// brief tells what a selection is in a few words, however long its lists are.
func brief(dims []int, s api.Selection) string {
	told := fmt.Sprintf("in %v: %+v", dims, s)
	if len(told) > 300 {
		told = told[:300] + ".."
	}
	return told
}

// wantError holds what all calls answer for a selection that may not be.
func wantError(t *testing.T, dims []int, s api.Selection, want api.Errno) {
	t.Helper()
	if e := space.Check(dims, s); e != want {
		t.Errorf("%s: Check answers %d, not %d", brief(dims, s), e, want)
	}
	if n, e := space.Count(dims, s); n != 0 || e != want {
		t.Errorf("%s: Count answers %d, %d, not 0, %d", brief(dims, s), n, e, want)
	}
	if l, e := space.Tuples(dims, s); len(l) != 0 || e != want {
		t.Errorf("%s: Tuples answers %d tuples, %d, not 0, %d", brief(dims, s), len(l), e, want)
	}
	if l, e := space.Places(dims, s); len(l) != 0 || e != want {
		t.Errorf("%s: Places answers %d places, %d, not 0, %d", brief(dims, s), len(l), e, want)
	}
}

// wantTuples holds what all calls answer for a selection that may be.
func wantTuples(t *testing.T, dims []int, s api.Selection, want [][]int, at []int) {
	t.Helper()
	if e := space.Check(dims, s); e != api.OK {
		t.Errorf("%s: Check answers %d", brief(dims, s), e)
	}
	if n, e := space.Count(dims, s); n != len(want) || e != api.OK {
		t.Errorf("%s: Count answers %d, %d, not %d", brief(dims, s), n, e, len(want))
	}
	if l, e := space.Tuples(dims, s); !equal(l, want) || e != api.OK {
		t.Errorf("%s: Tuples answers %v, %d, not %v", brief(dims, s), l, e, want)
	}
	if l, e := space.Places(dims, s); !slices.Equal(l, at) || e != api.OK {
		t.Errorf("%s: Places answers %v, %d, not %v", brief(dims, s), l, e, at)
	}
}

// wantPlaces holds what all calls answer against places alone: the tuples are those that have them.
func wantPlaces(t *testing.T, dims []int, s api.Selection, at ...int) {
	t.Helper()
	var want [][]int
	for _, p := range at {
		want = append(want, tupleAt(dims, p))
	}
	wantTuples(t, dims, s, want, at)
}

// tupleAt tells the tuple of a place, which is divided from the last dimension on.
func tupleAt(dims []int, p int) []int {
	tuple := make([]int, len(dims))
	for d := len(dims) - 1; d >= 0; d-- {
		tuple[d], p = p%dims[d], p/dims[d]
	}
	return tuple
}

// upTo tells the numbers from 0 on, below n.
func upTo(n int) []int {
	l := make([]int, n)
	for i := range l {
		l[i] = i
	}
	return l
}

// dice tells numbers that look thrown, and are the same in each run.
type dice uint64

func (d *dice) below(n int) int {
	*d = *d*6364136223846793005 + 1442695040888963407
	return int(uint64(*d)>>33) % n
}

// oneOf tells one of some numbers.
func (d *dice) oneOf(l ...int) int { return l[d.below(len(l))] }
