package grid_test

import (
	"testing"

	"slabvault/api"
)

// P13.2: a chunk's first number within the extent, and how many lie within: chunks within, that reach beyond, that begin at the end and beyond it.
func TestClipAlongOneDimension(t *testing.T) {
	for _, x := range []struct{ dim, shape, coord, start, size int }{
		{5, 2, 0, 0, 2}, {5, 2, 1, 2, 2}, {5, 2, 2, 4, 1}, {5, 2, 3, 5, 0}, {5, 2, 9, 5, 0}, {5, 2, most, 5, 0},
		{4, 2, 1, 2, 2}, {4, 2, 2, 4, 0}, {4, 2, 3, 4, 0}, {5, 1, 4, 4, 1}, {5, 1, 5, 5, 0}, {5, 1, 6, 5, 0}, {5, 1, most, 5, 0},
		{5, 5, 0, 0, 5}, {5, 5, 1, 5, 0}, {5, 5, 2, 5, 0}, {5, 6, 0, 0, 5}, {5, 6, 1, 5, 0}, {5, 4, 1, 4, 1}, {5, api.MaxDim, 0, 0, 5}, {5, api.MaxDim, 1, 5, 0},
		{0, 1, 0, 0, 0}, {0, 1, 1, 0, 0}, {0, 1, most, 0, 0}, {0, api.MaxDim, 0, 0, 0}, {0, api.MaxDim, most, 0, 0}, {1, 1, 0, 0, 1}, {1, 1, 1, 1, 0}, {1, 2, 0, 0, 1}, {1, 2, 1, 1, 0},
		{api.MaxDim, 1, api.MaxDim - 1, api.MaxDim - 1, 1}, {api.MaxDim, 1, api.MaxDim, api.MaxDim, 0}, {api.MaxDim, api.MaxDim, 0, 0, api.MaxDim}, {api.MaxDim, api.MaxDim, 1, api.MaxDim, 0},
		{api.MaxDim, api.MaxDim - 1, 1, api.MaxDim - 1, 1}, {api.MaxDim, 3, 349525, 1048575, 1}, {api.MaxDim - 1, api.MaxDim, 0, 0, api.MaxDim - 1},
		// Coordinates that come back to 0, to a small number, or to one below 0, if the product wraps round.
		{5, 2, 1 << 62, 5, 0}, {5, 2, 1<<63 - 1, 5, 0}, {5, 2, 1<<62 + 1, 5, 0}, {5, api.MaxDim, 1 << 44, 5, 0}, {5, api.MaxDim, 1 << 43, 5, 0}, {5, api.MaxDim, 1<<44 - 1, 5, 0}, {5, 1 << 19, 1<<45 + 1, 5, 0}, {5, 3, 6148914691236517206, 5, 0},
	} {
		wantClip(t, ints(x.dim), ints(x.shape), ints(x.coord), ints(x.start), ints(x.size), api.OK)
		// The same along each of several dimensions, whatever the others are.
		for at := range api.MaxRank {
			wantClip(t, with(same(1, 4), at, x.dim), with(same(1, 4), at, x.shape), with(same(0, 4), at, x.coord), with(same(0, 4), at, x.start), with(same(1, 4), at, x.size), api.OK)
			wantClip(t, with(ints(0, 0, 3, 2), at, x.dim), with(ints(1, 1, 1, 1), at, x.shape), with(same(most, 4), at, x.coord), with(ints(0, 0, 3, 2), at, x.start), with(same(0, 4), at, x.size), api.OK)
		}
	}
}

// P13.2: each dimension is clipped by itself: one along which a chunk begins beyond leaves the others as they are.
func TestClipAlongSeveral(t *testing.T) {
	wantClip(t, nil, nil, nil, nil, nil, api.OK)
	wantClip(t, ints(), ints(), ints(), nil, nil, api.OK)
	wantClip(t, ints(5, 7), ints(2, 3), ints(1, 2), ints(2, 6), ints(2, 1), api.OK)
	wantClip(t, ints(5, 7), ints(2, 3), ints(2, 1), ints(4, 3), ints(1, 3), api.OK)
	wantClip(t, ints(5, 7), ints(2, 3), ints(3, 1), ints(5, 3), ints(0, 3), api.OK)
	wantClip(t, ints(5, 7), ints(2, 3), ints(most, 2), ints(5, 6), ints(0, 1), api.OK)
	wantClip(t, ints(5, 7), ints(2, 3), ints(1, most), ints(2, 7), ints(2, 0), api.OK)
	wantClip(t, ints(5, 7, 2), ints(2, 3, 4), ints(2, 2, 0), ints(4, 6, 0), ints(1, 1, 2), api.OK)
	wantClip(t, ints(5, 7, 2, 9), ints(1, 2, 3, 4), ints(4, 3, 0, 2), ints(4, 6, 0, 8), ints(1, 1, 2, 1), api.OK)
	wantClip(t, ints(api.MaxDim, api.MaxDim, 0, api.MaxDim), same(32, 4), same(32767, 4), ints(1048544, 1048544, 0, 1048544), ints(32, 32, 0, 32), api.OK)
}

// P13.2: the error, if dims and shape do not fit, whatever the coordinates are.
func TestClipOfNoFit(t *testing.T) {
	for _, x := range misfits() {
		for _, coords := range [][]int{nil, same(0, len(x.dims)), same(-1, len(x.dims)), same(most, len(x.dims)), same(0, len(x.dims)+1)} {
			wantClip(t, x.dims, x.shape, coords, nil, nil, x.fault)
		}
	}
}

// wrongCoords tells coordinates that no chunk of a rank has.
func wrongCoords(rank int) [][]int {
	l := [][]int{same(0, rank+1), same(1, rank+2), same(0, 1000), append(same(most, rank), -1)}
	if rank > 0 {
		l = append(l, nil, ints(), same(0, rank-1), same(most, rank-1))
	}
	for at := range rank {
		for _, n := range []int{-1, -2, least} {
			l = append(l, with(same(0, rank), at, n), with(same(most, rank), at, n))
		}
	}
	return l
}

// P13.2: ErrArg of coordinates of another rank, or with a number below 0.
func TestClipOfWrongCoords(t *testing.T) {
	for rank := 0; rank <= api.MaxRank; rank++ {
		for _, coords := range wrongCoords(rank) {
			wantClip(t, same(3, rank), same(2, rank), coords, nil, nil, api.ErrArg)
			wantClip(t, same(0, rank), same(2, rank), coords, nil, nil, api.ErrArg)
		}
	}
}
