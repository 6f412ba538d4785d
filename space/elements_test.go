package space_test

import (
	"fmt"
	"math"
	"testing"

	"slabvault/api"
	"slabvault/space"
)

// wantElements holds an answer against the document's own and against the model.
func wantElements(t *testing.T, dims []int, want int, fault api.Errno) {
	t.Helper()
	if n, e := modelElements(dims); n != want || e != fault {
		t.Errorf("the model of Elements(%v) is %d, %d, not %d, %d", dims, n, e, want, fault)
	}
	if n, e := space.Elements(dims); n != want || e != fault {
		t.Errorf("Elements(%v) = %d, %d, not %d, %d", dims, n, e, want, fault)
	}
}

// P12.1: how many elements there are: the examples, ranks from 0 to MaxRank, dimensions of 0, 1 and MaxDim.
func TestElements(t *testing.T) {
	for _, x := range []struct {
		dims []int
		want int
	}{
		{nil, 1}, {ints(), 1}, {ints(2, 3), 6}, {ints(0, 5), 0}, {ints(0), 0}, {ints(1), 1}, {ints(7), 7},
		{ints(1, 1, 1, 1), 1}, {ints(2, 3, 5, 7), 210}, {ints(7, 5, 3, 2), 210}, {ints(0, 0, 0, 0), 0},
		{ints(api.MaxDim), api.MaxDim}, {ints(api.MaxDim - 1), api.MaxDim - 1}, {ints(1, api.MaxDim, 1, 1), api.MaxDim},
	} {
		wantElements(t, x.dims, x.want, api.OK)
	}
}

// P12.1: ErrArg of more than MaxRank dimensions, whatever they are, and of one that is below 0 or above MaxDim.
func TestElementsOfNoExtent(t *testing.T) {
	for _, dims := range [][]int{
		ints(1, 1, 1, 1, 1), ints(0, 0, 0, 0, 0), ints(2, 2, 2, 2, api.MaxDim), same(1, 1000), same(api.MaxDim, 5),
		ints(-1), ints(math.MinInt), ints(api.MaxDim + 1), ints(most), ints(3, -1), ints(-1, 3), ints(1, 1, 1, -1),
		ints(0, -1), ints(-1, 0), ints(0, api.MaxDim+1), ints(api.MaxDim+1, 0), ints(1, 2, 3, most), ints(-1, -1), ints(math.MinInt, math.MinInt),
	} {
		wantElements(t, dims, 0, api.ErrArg)
	}
}

// P12.1: ErrBig of more than MaxDim elements: products that are just MaxDim, and just above it.
func TestElementsAtTheLimit(t *testing.T) {
	for _, dims := range [][]int{
		ints(1<<10, 1<<10), ints(1<<19, 2), ints(2, 1<<19), ints(1<<5, 1<<5, 1<<5, 1<<5), ints(1, 1<<18, 1, 4),
	} {
		wantElements(t, dims, api.MaxDim, api.OK)
	}
	// 1048575 = 3 * 5 * 5 * 11 * 31 * 41, and 1048577 = 17 * 61681.
	wantElements(t, ints(75, 11, 31, 41), api.MaxDim-1, api.OK)
	for _, dims := range [][]int{
		ints(17, 61681), ints(61681, 17), ints(1, 17, 1, 61681), ints(api.MaxDim, 2), ints(2, api.MaxDim), ints(1025, 1024), ints(1024, 1025),
		ints(33, 32, 32, 32), ints(32, 32, 32, 33), same(api.MaxDim, 2), same(api.MaxDim, 3), same(api.MaxDim, 4),
		same(1<<16, 4), ints(1, 1, 3, api.MaxDim), ints(1<<16, 1<<16, 1<<16, 1<<15),
	} {
		wantElements(t, dims, 0, api.ErrBig)
	}
}

// P12.1: a 0 makes an extent without an element, wherever it stands among great ones.
func TestElementsOfNoughtAmongGreatOnes(t *testing.T) {
	for rank := 1; rank <= api.MaxRank; rank++ {
		for at := range rank {
			dims := same(api.MaxDim, rank)
			dims[at] = 0
			wantElements(t, dims, 0, api.OK)
		}
	}
}

// P12.1, rule 2: ErrArg stands ahead of ErrBig, wherever the number stands that may not be.
func TestElementsArgAheadOfBig(t *testing.T) {
	for _, bad := range []int{-1, api.MaxDim + 1, most, math.MinInt} {
		for at := range api.MaxRank {
			dims := same(api.MaxDim, api.MaxRank)
			dims[at] = bad
			wantElements(t, dims, 0, api.ErrArg)
		}
	}
}

// P12.1: all small extents, and those of few numbers at the edges, against the model.
func TestElementsAgainstTheModel(t *testing.T) {
	edges := []int{math.MinInt, -1, 0, 1, 2, 3, 17, 1 << 5, 1 << 10, 61681, 1 << 19, api.MaxDim - 1, api.MaxDim, api.MaxDim + 1, most}
	var walk func(dims []int)
	walk = func(dims []int) {
		n, e := space.Elements(dims)
		if m, f := modelElements(dims); n != m || e != f {
			t.Errorf("Elements(%v) = %d, %d, not %d, %d", dims, n, e, m, f)
		}
		if len(dims) == api.MaxRank {
			return
		}
		for _, n := range edges {
			walk(append(ints(dims...), n))
		}
	}
	walk(nil)
}

// P12.2, rule 2: Elements' error stands ahead of whatever is wrong with the selection.
func TestElementsErrorComesFirst(t *testing.T) {
	for _, x := range []struct {
		dims  []int
		fault api.Errno
	}{
		{ints(-1), api.ErrArg}, {ints(api.MaxDim + 1), api.ErrArg}, {ints(1, 1, 1, 1, 1), api.ErrArg}, {ints(-1, 0), api.ErrArg},
		{ints(api.MaxDim, 2), api.ErrBig}, {same(api.MaxDim, 4), api.ErrBig}, {ints(17, 61681), api.ErrBig},
	} {
		rank := len(x.dims)
		for _, s := range []api.Selection{
			all(), points(), points(same(0, rank)), points(same(-1, rank)), points(same(most, rank)), points(nil, ints(1, 2, 3, 4, 5, 6)),
			slab(same(0, rank), same(1, rank), same(1, rank), same(1, rank)), slab(nil, nil, nil, nil),
			slab(same(0, rank), same(0, rank), same(most, rank), same(1, rank)), slab(same(0, rank), same(1, rank), same(0, rank), same(1, rank)),
			{}, {Kind: 4}, {Kind: -1}, {Kind: most},
		} {
			t.Run(fmt.Sprint(x.dims, s), func(t *testing.T) { wantError(t, x.dims, s, x.fault) })
		}
	}
}
