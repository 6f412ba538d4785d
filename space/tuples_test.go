package space_test

import (
	"slices"
	"testing"

	"slabvault/api"
)

// wantTuplesOfModel holds what all calls answer against the model, whatever that is.
func wantTuplesOfModel(t *testing.T, dims []int, s api.Selection) {
	t.Helper()
	want, fault := modelTuples(dims, s)
	if fault != api.OK {
		wantError(t, dims, s, fault)
		return
	}
	var at []int
	for _, tuple := range want {
		at = append(at, modelPlace(dims, tuple))
	}
	wantTuples(t, dims, s, want, at)
}

// P12.3: all tuples of an extent, by places, the last number going fastest.
func TestAll(t *testing.T) {
	wantTuples(t, ints(2, 3), all(), [][]int{{0, 0}, {0, 1}, {0, 2}, {1, 0}, {1, 1}, {1, 2}}, ints(0, 1, 2, 3, 4, 5))
	wantTuples(t, ints(3), all(), [][]int{{0}, {1}, {2}}, ints(0, 1, 2))
	wantTuples(t, ints(2, 1, 2), all(), [][]int{{0, 0, 0}, {0, 0, 1}, {1, 0, 0}, {1, 0, 1}}, ints(0, 1, 2, 3))
	wantTuples(t, ints(1, 1, 1, 1), all(), [][]int{{0, 0, 0, 0}}, ints(0))
	wantTuples(t, ints(2, 1, 1, 2), all(), [][]int{{0, 0, 0, 0}, {0, 0, 0, 1}, {1, 0, 0, 0}, {1, 0, 0, 1}}, ints(0, 1, 2, 3))
	for _, dims := range [][]int{ints(0), ints(0, 5), ints(5, 0), ints(0, 0, 0, 0), ints(2, 0, 3)} {
		wantTuples(t, dims, all(), nil, nil)
	}
}

// P12.3: of rank 0 there is one tuple without a number, at place 0, by each Kind.
func TestRankNought(t *testing.T) {
	for _, none := range [][]int{nil, ints()} {
		for _, other := range [][]int{nil, ints()} {
			wantTuples(t, none, all(), [][]int{nil}, ints(0))
			wantTuples(t, none, points(other), [][]int{nil}, ints(0))
			wantTuples(t, none, points(other, none, other), [][]int{nil, nil, nil}, ints(0, 0, 0))
			wantTuples(t, none, points(), nil, nil)
			wantTuples(t, none, slab(other, none, other, other), [][]int{nil}, ints(0))
			wantTuples(t, none, slab(none, other, none, other), [][]int{nil}, ints(0))
		}
	}
}

// P12.3: points one by one, in the order in which they stand, also several times.
func TestPointsInTheirOrder(t *testing.T) {
	wantTuples(t, ints(2, 3), points(ints(1, 2), ints(1, 2)), [][]int{{1, 2}, {1, 2}}, ints(5, 5))
	wantTuples(t, ints(2, 3), points(ints(1, 0), ints(0, 2), ints(0, 0), ints(1, 0)), [][]int{{1, 0}, {0, 2}, {0, 0}, {1, 0}}, ints(3, 2, 0, 3))
	wantTuples(t, ints(4), points(ints(3)), [][]int{{3}}, ints(3))
	wantTuples(t, ints(2, 3, 4, 5), points(ints(1, 2, 3, 4), ints(1, 0, 0, 0), ints(0, 1, 0, 0), ints(0, 0, 1, 0), ints(0, 0, 0, 1)),
		[][]int{{1, 2, 3, 4}, {1, 0, 0, 0}, {0, 1, 0, 0}, {0, 0, 1, 0}, {0, 0, 0, 1}}, ints(119, 60, 20, 5, 1))
	for _, dims := range [][]int{ints(0), ints(2, 3), ints(0, 9), same(1, 4)} {
		wantTuples(t, dims, points(), nil, nil)
		wantTuples(t, dims, points([][]int{}...), nil, nil)
	}
}

// P12.3: a hyperslab's tuples, those of the last dimension going fastest; the steps of a dimension go slower than its blocks.
func TestSlab(t *testing.T) {
	wantTuples(t, ints(2, 3), slab(ints(0, 1), ints(1, 1), ints(2, 2), ints(1, 1)), [][]int{{0, 1}, {0, 2}, {1, 1}, {1, 2}}, ints(1, 2, 4, 5))
	wantError(t, ints(2, 3), slab(ints(0, 1), ints(1, 2), ints(2, 2), ints(1, 1)), api.ErrSelection)
	wantPlaces(t, ints(10), line(1, 4, 2, 3), 1, 2, 3, 5, 6, 7)
	wantPlaces(t, ints(10), line(0, 5, 2, 1), 0, 5)
	wantPlaces(t, ints(10), line(2, 3, 1, 4), 2, 3, 4, 5)
	wantPlaces(t, ints(4, 5), slab(ints(0, 0), ints(3, 3), ints(2, 2), ints(1, 2)), 0, 1, 3, 4, 15, 16, 18, 19)
	wantPlaces(t, ints(4, 5), slab(ints(0, 4), ints(2, 1), ints(2, 1), ints(2, 1)), 4, 9, 14, 19)
	wantTuples(t, ints(2, 2, 2), slab(ints(0, 1, 0), ints(1, 1, 1), ints(2, 1, 2), ints(1, 1, 1)), [][]int{{0, 1, 0}, {0, 1, 1}, {1, 1, 0}, {1, 1, 1}}, ints(2, 3, 6, 7))
	wantTuples(t, ints(2, 3, 4, 5), slab(ints(1, 1, 1, 1), same(1, 4), ints(1, 1, 2, 1), ints(1, 1, 1, 2)),
		[][]int{{1, 1, 1, 1}, {1, 1, 1, 2}, {1, 1, 2, 1}, {1, 1, 2, 2}}, ints(86, 87, 91, 92))
}

// P12.3: a Stride of 0, or below Block, selects tuples several times, in that order.
func TestSlabSeveralTimes(t *testing.T) {
	wantPlaces(t, ints(3), line(0, 1, 2, 2), 0, 1, 1, 2)
	wantPlaces(t, ints(3), line(1, 0, 3, 1), 1, 1, 1)
	wantPlaces(t, ints(3), line(1, 0, 3, 2), 1, 2, 1, 2, 1, 2)
	wantPlaces(t, ints(5), line(0, 1, 3, 3), 0, 1, 2, 1, 2, 3, 2, 3, 4)
	wantPlaces(t, ints(6), line(0, 2, 2, 4), 0, 1, 2, 3, 2, 3, 4, 5)
	wantPlaces(t, ints(2, 2), slab(ints(0, 1), ints(0, 0), ints(2, 2), ints(1, 1)), 1, 1, 1, 1)
	wantPlaces(t, ints(2, 2), slab(ints(0, 0), ints(0, 0), ints(2, 1), ints(2, 2)), 0, 1, 2, 3, 0, 1, 2, 3)
	wantPlaces(t, ints(2, 2), slab(ints(0, 0), ints(0, 0), ints(1, 2), ints(2, 2)), 0, 1, 0, 1, 2, 3, 2, 3)
}

// P12.3: a Stride that takes no step may be whatever it likes.
func TestStrideOfOneStep(t *testing.T) {
	for _, stride := range []int{0, 1, 2, 3, 9, 1 << 62, most} {
		wantPlaces(t, ints(4), line(3, stride, 1, 1), 3)
		wantPlaces(t, ints(4), line(1, stride, 1, 3), 1, 2, 3)
		wantPlaces(t, ints(2, 3), slab(ints(0, 1), ints(stride, stride), ints(1, 1), ints(2, 2)), 1, 2, 4, 5)
	}
}

// P12.3: selections far out in a great extent.
func TestFarPlaces(t *testing.T) {
	last := api.MaxDim - 1
	wantPlaces(t, ints(api.MaxDim), line(0, last, 2, 1), 0, last)
	wantPlaces(t, ints(1<<10, 1<<10), slab(ints(1023, 1022), ints(1, 1), ints(1, 2), ints(1, 1)), last-1, last)
	wantPlaces(t, ints(1<<5, 1<<5, 1<<5, 1<<5), slab(same(0, 4), same(31, 4), same(2, 4), same(1, 4)), cornersOf(1<<5)...)
	wantPlaces(t, ints(1<<18, 1, 4), points(ints(1<<18-1, 0, 3), ints(1<<17, 0, 1)), last, 1<<19+1)
}

// cornersOf tells the places of all corners of an extent of rank 4 that is alike along all dimensions.
func cornersOf(n int) []int {
	at := ints(0)
	for range 4 {
		at = slices.Concat(at, at)
		for i := range at {
			at[i] *= n
			if i >= len(at)/2 {
				at[i] += n - 1
			}
		}
	}
	slices.Sort(at)
	return at
}

// P12.3: each small hyperslab of one dimension against the model.
func TestAllSmallLines(t *testing.T) {
	for n := range 5 {
		for start := range 6 {
			for stride := range 4 {
				for count := range 5 {
					for block := range 5 {
						wantTuplesOfModel(t, ints(n), line(start, stride, count, block))
					}
				}
			}
		}
	}
}

// P12.3: each small hyperslab of two dimensions against the model.
func TestAllSmallSlabs(t *testing.T) {
	var walk func(l []int)
	walk = func(l []int) {
		if len(l) == 8 {
			wantTuplesOfModel(t, ints(3, 2), slab(l[:2], l[2:4], l[4:6], l[6:]))
			return
		}
		for n := range 3 {
			walk(append(ints(l...), n))
		}
	}
	walk(nil)
}
