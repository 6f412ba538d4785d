package grid_test

import (
	"fmt"
	"testing"

	"slabvault/api"
	"slabvault/grid"
)

// misfit is an extent and a shape that do not fit, and the error that comes of them.
type misfit struct {
	dims, shape []int
	fault       api.Errno
}

// misfits tells all that is wrong with an extent, then with a shape, then what comes first where two apply.
func misfits() []misfit {
	l := []misfit{
		{ints(1, 1, 1, 1, 1), ints(1, 1, 1, 1, 1), api.ErrArg}, {same(0, 5), same(1, 5), api.ErrArg}, {same(1, 5), same(1, 4), api.ErrArg},
		{ints(api.MaxDim, 2), ints(1, 1), api.ErrBig}, {ints(17, 61681), ints(1, 1), api.ErrBig}, {same(api.MaxDim, 4), same(1, 4), api.ErrBig},
		{ints(5), nil, api.ErrArg}, {ints(5), ints(), api.ErrArg}, {ints(5), ints(2, 2), api.ErrArg}, {ints(2, 2), ints(2), api.ErrArg},
		{nil, ints(1), api.ErrArg}, {ints(), ints(1), api.ErrArg}, {same(1, 4), same(1, 3), api.ErrArg}, {same(1, 4), same(1, 5), api.ErrArg}, {ints(5), same(1, 1000), api.ErrArg},
		{ints(5, 5), ints(api.MaxDim, 2), api.ErrBig}, {ints(5, 5), ints(2, api.MaxDim), api.ErrBig}, {ints(0, 0), ints(17, 61681), api.ErrBig}, {same(1, 4), same(api.MaxDim, 4), api.ErrBig}, {same(2, 4), same(1<<16, 4), api.ErrBig},
		// Which comes first: the extent's error, then the shape's numbers, then how many elements it has.
		{ints(api.MaxDim, 2), ints(0, 1), api.ErrBig}, {ints(api.MaxDim, 2), nil, api.ErrBig}, {ints(api.MaxDim, 2), ints(-1, most), api.ErrBig},
		{ints(-1, 2), ints(api.MaxDim, 2), api.ErrArg}, {ints(3, api.MaxDim+1), ints(api.MaxDim, 2), api.ErrArg}, {same(1, 5), same(api.MaxDim, 5), api.ErrArg},
		{ints(5, 5, 5), ints(api.MaxDim, api.MaxDim, 0), api.ErrArg}, {ints(5, 5, 5), ints(-1, api.MaxDim, api.MaxDim), api.ErrArg}, {ints(5), ints(api.MaxDim, 2), api.ErrArg},
		{ints(api.MaxDim, 2), ints(api.MaxDim, 2), api.ErrBig}, {ints(-1), ints(0), api.ErrArg},
	}
	for rank := 1; rank <= api.MaxRank; rank++ {
		good := same(2, rank)
		for at := range rank {
			for _, n := range []int{-1, -2, least, api.MaxDim + 1, most} {
				l = append(l, misfit{with(good, at, n), good, api.ErrArg}, misfit{good, with(good, at, n), api.ErrArg})
			}
			l = append(l, misfit{good, with(good, at, 0), api.ErrArg})
		}
	}
	return l
}

// P13.1: how many chunks have a tuple of the extent: the example, ranks 0 to MaxRank, dimensions and shapes at their edges.
func TestChunks(t *testing.T) {
	for _, x := range []struct {
		dims, shape []int
		want        int
	}{
		{ints(5), ints(2), 3}, {nil, nil, 1}, {ints(), nil, 1}, {nil, ints(), 1}, {ints(4), ints(2), 2}, {ints(6), ints(2), 3}, {ints(1), ints(1), 1},
		{ints(5), ints(1), 5}, {ints(5), ints(4), 2}, {ints(5), ints(5), 1}, {ints(5), ints(6), 1}, {ints(5), ints(api.MaxDim), 1},
		{ints(0), ints(1), 0}, {ints(0), ints(api.MaxDim), 0}, {ints(0, 5), ints(2, 2), 0}, {ints(5, 0), ints(2, 2), 0},
		{ints(api.MaxDim), ints(1), api.MaxDim}, {ints(api.MaxDim), ints(2), api.MaxDim / 2}, {ints(api.MaxDim), ints(3), 349526}, {ints(api.MaxDim), ints(api.MaxDim - 1), 2}, {ints(api.MaxDim), ints(api.MaxDim), 1},
		{ints(api.MaxDim - 1), ints(api.MaxDim), 1}, {ints(1<<10, 1<<10), ints(1, 1), api.MaxDim}, {same(1<<5, 4), same(1, 4), api.MaxDim},
		{ints(2, 3), ints(2, 2), 2}, {ints(3, 2), ints(2, 2), 2}, {ints(3, 3), ints(2, 2), 4}, {ints(7, 5, 3, 2), ints(2, 2, 2, 2), 24}, {ints(7, 5, 3, 2), ints(3, 1, 4, 2), 15},
		{same(1, 4), same(32, 4), 1}, {ints(7, 5, 3), ints(1, 5, 9), 7},
	} {
		wantChunks(t, x.dims, x.shape, x.want, api.OK)
	}
}

// P13.1: a 0 makes an extent without a chunk, wherever it stands among great dimensions.
func TestChunksOfNothing(t *testing.T) {
	for rank := 1; rank <= api.MaxRank; rank++ {
		for at := range rank {
			dims := with(same(api.MaxDim, rank), at, 0)
			wantChunks(t, dims, same(1, rank), 0, api.OK)
			wantChunks(t, dims, with(same(1, rank), at, api.MaxDim), 0, api.OK)
		}
	}
}

// P13.1: as many as there are other coordinates among those of all tuples.
func TestChunksAreThoseOfTuples(t *testing.T) {
	d := dice(131)
	for i := range 1500 {
		dims, shape := ints(), ints()
		for range i % (api.MaxRank + 1) {
			dims, shape = append(dims, d.below(6)), append(shape, 1+d.below(7))
		}
		seen := map[string]int{}
		for _, tuple := range tuples(dims) {
			coords, _, e := grid.Of(tuple, shape)
			if e != api.OK {
				t.Errorf("Of(%v, %v) answers %d", tuple, shape, e)
			}
			seen[fmt.Sprint(coords)]++
		}
		wantChunks(t, dims, shape, len(seen), api.OK)
	}
}

// P13.1: the error, if dims and shape do not fit.
func TestChunksOfNoFit(t *testing.T) {
	for _, x := range misfits() {
		if e := modelFit(x.dims, x.shape); e != x.fault {
			t.Errorf("the model of %v by %v is %d, not %d", x.dims, x.shape, e, x.fault)
		}
		wantChunks(t, x.dims, x.shape, 0, x.fault)
	}
}

// P13.1: the coordinates of a tuple's chunk, and what is left.
func TestOf(t *testing.T) {
	for _, x := range []struct{ at, shape, coords, inner []int }{
		{ints(4), ints(2), ints(2), ints(0)}, {nil, nil, nil, nil}, {ints(), nil, nil, nil}, {nil, ints(), nil, nil},
		{ints(0), ints(1), ints(0), ints(0)}, {ints(5), ints(2), ints(2), ints(1)}, {ints(5), ints(5), ints(1), ints(0)}, {ints(5), ints(6), ints(0), ints(5)}, {ints(5), ints(1), ints(5), ints(0)},
		{ints(5), ints(api.MaxDim), ints(0), ints(5)}, {ints(api.MaxDim - 1), ints(api.MaxDim), ints(0), ints(api.MaxDim - 1)}, {ints(api.MaxDim), ints(api.MaxDim), ints(1), ints(0)}, {ints(api.MaxDim + 1), ints(api.MaxDim), ints(1), ints(1)},
		{ints(most), ints(1), ints(most), ints(0)}, {ints(most), ints(2), ints(most / 2), ints(1)}, {ints(most), ints(api.MaxDim), ints(most >> 20), ints(api.MaxDim - 1)}, {ints(1 << 62), ints(api.MaxDim), ints(1 << 42), ints(0)},
		{ints(7, 5), ints(2, 3), ints(3, 1), ints(1, 2)}, {ints(7, 5, 3), ints(7, 5, 3), ints(1, 1, 1), ints(0, 0, 0)}, {ints(9, 8, 7, 6), ints(1, 2, 3, 4), ints(9, 4, 2, 1), ints(0, 0, 1, 2)},
		{same(most, 4), ints(1, 2, 3, 4), ints(most, most/2, most/3, most/4), ints(0, 1, most%3, 3)},
	} {
		wantOf(t, x.at, x.shape, x.coords, x.inner, api.OK)
	}
}

// P13.1: Of does not ask how many elements a shape has together.
func TestOfGreatShapes(t *testing.T) {
	wantOf(t, ints(5, 5), ints(api.MaxDim, 2), ints(0, 2), ints(5, 1), api.OK)
	wantOf(t, same(api.MaxDim+3, 4), same(api.MaxDim, 4), same(1, 4), same(3, 4), api.OK)
}

// P13.1: ErrArg of more than MaxRank numbers, of lists that are not as long, and of numbers that may not be.
func TestOfWrongLists(t *testing.T) {
	for _, x := range []struct{ at, shape []int }{
		{same(0, 5), same(1, 5)}, {same(0, 1000), same(1, 1000)}, {same(0, 5), same(1, 4)}, {same(0, 4), same(1, 5)},
		{ints(1), nil}, {ints(1), ints()}, {nil, ints(1)}, {ints(), ints(1)}, {ints(1, 1), ints(1)}, {ints(1), ints(1, 1)}, {same(1, 4), same(1, 3)}, {same(1, 3), same(1, 4)},
		{same(-1, 2), same(0, 2)}, {ints(-1), ints(1, 1)},
	} {
		wantOf(t, x.at, x.shape, nil, nil, api.ErrArg)
	}
	for rank := 1; rank <= api.MaxRank; rank++ {
		at, shape := same(3, rank), same(2, rank)
		for d := range rank {
			for _, n := range []int{-1, -2, -3, least} {
				wantOf(t, with(at, d, n), shape, nil, nil, api.ErrArg)
			}
			for _, n := range []int{0, -1, -2, least, api.MaxDim + 1, most} {
				wantOf(t, at, with(shape, d, n), nil, nil, api.ErrArg)
			}
		}
	}
}
