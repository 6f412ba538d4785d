package space_test

import (
	"math"
	"slices"
	"testing"

	"slabvault/api"
)

// P12.2: ErrArg of a Kind that is none, whatever the lists are.
func TestKindThatIsNone(t *testing.T) {
	for _, kind := range []api.SelKind{0, 4, 5, -1, most, math.MinInt} {
		for _, dims := range [][]int{nil, ints(0), ints(2, 3), same(1, 4)} {
			s := slab(same(0, len(dims)), same(1, len(dims)), same(1, len(dims)), same(1, len(dims)))
			s.Points = [][]int{same(0, len(dims))}
			s.Kind = kind
			wantError(t, dims, s, api.ErrArg)
			wantError(t, dims, api.Selection{Kind: kind}, api.ErrArg)
		}
	}
}

// P12.2: ErrArg of a point with another rank, wherever it stands.
func TestPointOfAnotherRank(t *testing.T) {
	for rank := 0; rank <= api.MaxRank; rank++ {
		dims, good := same(2, rank), same(1, rank)
		for other := 0; other <= api.MaxRank+2; other++ {
			if other == rank {
				continue
			}
			bad := same(0, other)
			for _, l := range [][][]int{{bad}, {bad, good}, {good, bad}, {good, bad, good}, {good, good, good, bad}} {
				wantError(t, dims, points(l...), api.ErrArg)
			}
		}
		if rank > 0 {
			wantError(t, dims, points(nil), api.ErrArg)
			wantError(t, dims, points(ints()), api.ErrArg)
			wantError(t, dims, points(good, nil), api.ErrArg)
		}
	}
}

// P12.2: ErrArg of a point with a number below 0, wherever it stands.
func TestPointBelowNought(t *testing.T) {
	for rank := 1; rank <= api.MaxRank; rank++ {
		dims, good := same(2, rank), same(1, rank)
		for d := range rank {
			for _, n := range []int{-1, -2, math.MinInt} {
				bad := slices.Clone(good)
				bad[d] = n
				wantError(t, dims, points(bad), api.ErrArg)
				wantError(t, dims, points(good, good, bad), api.ErrArg)
				wantError(t, dims, points(bad, good), api.ErrArg)
			}
		}
	}
}

// P12.2: ErrSelection of a point with a number that is the extent's or above it, along each dimension; the last one within is OK.
func TestPointOutside(t *testing.T) {
	dims := ints(2, 3, 1, 4)
	last := ints(1, 2, 0, 3)
	wantPlaces(t, dims, points(last), 23)
	for d := range dims {
		for _, n := range []int{dims[d], dims[d] + 1, most} {
			bad := slices.Clone(last)
			bad[d] = n
			wantError(t, dims, points(bad), api.ErrSelection)
			wantError(t, dims, points(last, bad), api.ErrSelection)
			wantError(t, dims, points(bad, last), api.ErrSelection)
		}
	}
	wantError(t, ints(0), points(ints(0)), api.ErrSelection)
	wantError(t, ints(3, 0), points(ints(0, 0)), api.ErrSelection)
	wantError(t, ints(0, 3), points(ints(0, 0)), api.ErrSelection)
	wantPlaces(t, ints(api.MaxDim), points(ints(api.MaxDim-1)), api.MaxDim-1)
	wantError(t, ints(api.MaxDim), points(ints(api.MaxDim)), api.ErrSelection)
}

// P12.2: ErrTooBig of more than MaxSelect points, those that stand several times counted each time.
func TestTooManyPoints(t *testing.T) {
	for _, dims := range [][]int{nil, ints(1), ints(2, 3), same(1, 4)} {
		tuple := same(0, len(dims))
		wantPlaces(t, dims, points(slices.Repeat([][]int{tuple}, api.MaxSelect)...), make([]int, api.MaxSelect)...)
		for _, n := range []int{api.MaxSelect + 1, api.MaxSelect + 2, 3 * api.MaxSelect} {
			wantError(t, dims, points(slices.Repeat([][]int{tuple}, n)...), api.ErrTooBig)
		}
	}
}

// P12.2, rule 2: of points, ErrArg stands ahead of ErrSelection, and that ahead of ErrTooBig, in whatever order the points stand.
func TestWhichErrorOfPoints(t *testing.T) {
	dims := ints(2, 3)
	good, outside, below, short, both := ints(1, 1), ints(2, 0), ints(0, -1), ints(1), ints(most, -1)
	many := slices.Repeat([][]int{good}, api.MaxSelect+1)
	for _, bad := range [][]int{below, short, both, nil, ints(1, 1, 1)} {
		wantError(t, dims, points(outside, bad), api.ErrArg)
		wantError(t, dims, points(bad, outside), api.ErrArg)
		wantError(t, dims, points(slices.Concat(many, [][]int{bad})...), api.ErrArg)
		wantError(t, dims, points(slices.Concat([][]int{bad}, many)...), api.ErrArg)
		wantError(t, dims, points(slices.Concat([][]int{outside}, many, [][]int{bad})...), api.ErrArg)
	}
	wantError(t, dims, points(slices.Concat(many, [][]int{outside})...), api.ErrSelection)
	wantError(t, dims, points(slices.Concat([][]int{outside}, many)...), api.ErrSelection)
	wantError(t, dims, points(slices.Repeat([][]int{outside}, api.MaxSelect+1)...), api.ErrSelection)
}

// parts tells the four lists of a hyperslab, so that each can be changed.
func parts(s *api.Selection) []*[]int {
	return []*[]int{&s.Start, &s.Stride, &s.Count, &s.Block}
}

// P12.2: ErrArg of Start, Stride, Count or Block of another rank; it stands ahead of the rest, also where nothing is selected.
func TestSlabOfAnotherRank(t *testing.T) {
	for rank := 0; rank <= api.MaxRank; rank++ {
		for other := 0; other <= api.MaxRank+2; other++ {
			if other == rank {
				continue
			}
			for _, n := range []int{0, 1, most} {
				for i := range 4 {
					s := slab(same(n, rank), same(n, rank), same(n, rank), same(n, rank))
					*parts(&s)[i] = same(n, other)
					wantError(t, same(1, rank), s, api.ErrArg)
					if other == 0 {
						*parts(&s)[i] = nil
						wantError(t, same(1, rank), s, api.ErrArg)
					}
				}
			}
		}
	}
	wantError(t, ints(1), slab(nil, nil, nil, nil), api.ErrArg)
	wantError(t, nil, line(0, 1, 1, 1), api.ErrArg)
}

// P12.2: ErrArg of a number of them below 0; it stands ahead of the rest, also where nothing is selected.
func TestSlabBelowNought(t *testing.T) {
	for rank := 1; rank <= api.MaxRank; rank++ {
		for _, n := range []int{0, 1, most} {
			for i := range 4 {
				for d := range rank {
					for _, bad := range []int{-1, math.MinInt} {
						s := slab(same(n, rank), same(n, rank), same(n, rank), same(n, rank))
						(*parts(&s)[i])[d] = bad
						wantError(t, same(1, rank), s, api.ErrArg)
						wantError(t, same(0, rank), s, api.ErrArg)
					}
				}
			}
		}
	}
}

// P12.2: the last number of a hyperslab along a dimension is the extent's last, and one beyond: by the start, the step, the count and the block.
func TestSlabAtTheEnd(t *testing.T) {
	dims := ints(10)
	for _, x := range []struct{ start, stride, count, block int }{
		{9, 1, 1, 1}, {0, 1, 10, 1}, {0, 1, 1, 10}, {0, 9, 2, 1}, {1, 4, 3, 1}, {0, 4, 2, 6}, {3, 2, 3, 3}, {9, most, 1, 1}, {9, 0, 5, 1}, {7, 0, 2, 3}, {2, 1, 6, 3}, {0, 10, 1, 10},
	} {
		if _, e := modelTuples(dims, line(x.start, x.stride, x.count, x.block)); e != api.OK {
			t.Errorf("%v: the model answers %d", x, e)
		}
		wantTuplesOfModel(t, dims, line(x.start, x.stride, x.count, x.block))
		wantError(t, dims, line(x.start+1, x.stride, x.count, x.block), api.ErrSelection)
		wantError(t, dims, line(x.start, x.stride, x.count, x.block+1), api.ErrSelection)
		wantError(t, dims, line(10, x.stride, x.count, x.block), api.ErrSelection)
		wantError(t, dims, line(most, x.stride, x.count, x.block), api.ErrSelection)
		wantError(t, dims, line(x.start, x.stride, x.count, most), api.ErrSelection)
		if x.stride > 0 {
			wantError(t, dims, line(x.start, x.stride, x.count+1, x.block), api.ErrSelection)
			wantError(t, dims, line(x.start, x.stride, most, x.block), api.ErrSelection)
		}
		if x.count > 1 {
			wantError(t, dims, line(x.start, x.stride+1, x.count, x.block), api.ErrSelection)
			wantError(t, dims, line(x.start, most, x.count, x.block), api.ErrSelection)
		}
	}
}

// P12.2: each dimension is looked at, also the last one and those between.
func TestSlabOutsideAlongEachDimension(t *testing.T) {
	dims := ints(3, 4, 5, 6)
	one := same(1, 4)
	for d := range dims {
		for _, x := range []struct{ start, stride, count, block, over int }{
			{dims[d] - 1, 1, 1, 1, 0}, {0, 1, dims[d], 1, 2}, {0, 1, 1, dims[d], 3}, {0, dims[d] - 1, 2, 1, 1},
		} {
			s := slab(same(0, 4), slices.Clone(one), slices.Clone(one), slices.Clone(one))
			s.Start[d], s.Stride[d], s.Count[d], s.Block[d] = x.start, x.stride, x.count, x.block
			wantTuplesOfModel(t, dims, s)
			(*parts(&s)[x.over])[d]++
			wantError(t, dims, s, api.ErrSelection)
		}
	}
	wantError(t, ints(0), line(0, 1, 1, 1), api.ErrSelection)
	wantError(t, ints(0), line(0, 0, 1, 1), api.ErrSelection)
	wantError(t, ints(5, 0), slab(ints(0, 0), ints(1, 1), ints(1, 1), ints(1, 1)), api.ErrSelection)
	wantError(t, ints(0, 5), slab(ints(0, 0), ints(1, 1), ints(1, 1), ints(1, 1)), api.ErrSelection)
}

// P12.2: where Count or Block has a 0, nothing is selected and nothing lies outside, however far away the rest is.
func TestSlabOfNothing(t *testing.T) {
	for rank := 1; rank <= api.MaxRank; rank++ {
		for _, dims := range [][]int{same(0, rank), same(1, rank), same(3, rank)} {
			for d := range rank {
				for _, n := range []int{1, 2, 99, 1 << 62, most} {
					s := slab(same(n, rank), same(n, rank), same(n, rank), same(n, rank))
					s.Count[d] = 0
					wantTuples(t, dims, s, nil, nil)
					s.Block[d] = 0
					wantTuples(t, dims, s, nil, nil)
					s.Count[d] = n
					wantTuples(t, dims, s, nil, nil)
				}
			}
		}
	}
	wantTuples(t, ints(2, 3), slab(ints(1, 9), ints(1, 1), ints(1, 0), ints(1, 1)), nil, nil)
	wantTuples(t, ints(2, 3), slab(ints(9, 9), ints(1, 1), ints(most, most), ints(most, 0)), nil, nil)
	wantTuples(t, ints(2, 3), slab(ints(9, 9), ints(1, 1), ints(0, most), ints(most, most)), nil, nil)
	wantTuples(t, ints(api.MaxDim, 0, api.MaxDim, api.MaxDim), all(), nil, nil)
}

// P12.2: just MaxSelect tuples, and one more or some more, by counts, by blocks and by both, with steps or without.
func TestSlabOfTooMany(t *testing.T) {
	dims := ints(api.MaxDim)
	for _, x := range []struct{ stride, count, block int }{
		{1, 4096, 1}, {0, 4096, 1}, {1, 1, 4096}, {0, 1, 4096}, {1, 64, 64}, {0, 64, 64}, {0, 2, 2048}, {256, 4096, 1}, {16384, 64, 64}, {most, 1, 4096},
	} {
		wantTuplesOfModel(t, dims, line(0, x.stride, x.count, x.block))
		wantError(t, dims, line(0, x.stride, x.count, x.block+1), api.ErrTooBig)
		if x.stride < 256 { // A wider step more would lead beyond the extent.
			wantError(t, dims, line(0, x.stride, x.count+1, x.block), api.ErrTooBig)
		}
	}
	// 4097 = 17 * 241.
	wantError(t, ints(300, 300), slab(ints(0, 0), ints(1, 1), ints(17, 241), ints(1, 1)), api.ErrTooBig)
	wantError(t, ints(300, 300), slab(ints(0, 0), ints(1, 1), ints(1, 1), ints(241, 17)), api.ErrTooBig)
	wantError(t, ints(300, 300), slab(ints(0, 0), ints(1, 1), ints(1, 17), ints(241, 1)), api.ErrTooBig)
	wantTuplesOfModel(t, ints(300, 300), slab(ints(0, 0), ints(1, 1), ints(64, 64), ints(1, 1)))
	wantTuplesOfModel(t, ints(9, 9, 9, 9), slab(same(1, 4), same(1, 4), same(8, 4), same(1, 4)))
	wantError(t, ints(9, 9, 9, 9), slab(same(0, 4), same(1, 4), ints(8, 8, 8, 9), same(1, 4)), api.ErrTooBig)
	wantError(t, ints(9, 9, 9, 9), slab(same(0, 4), same(1, 4), ints(9, 8, 8, 8), same(1, 4)), api.ErrTooBig)
}

// P12.2: SelAll of an extent of just MaxSelect elements, one more, and all.
func TestAllOfTooMany(t *testing.T) {
	for _, dims := range [][]int{ints(api.MaxSelect), ints(64, 64), ints(8, 8, 8, 8), ints(1, 4096, 1), ints(4095)} {
		n := int(times(dims).Int64())
		wantPlaces(t, dims, all(), upTo(n)...)
	}
	for _, dims := range [][]int{ints(api.MaxSelect + 1), ints(17, 241), ints(9, 8, 8, 8), ints(8, 8, 8, 9), ints(api.MaxDim), ints(1<<10, 1<<10)} {
		wantError(t, dims, all(), api.ErrTooBig)
	}
}

// P12.2, rule 6: numbers so great that a sum or a product of them would pass an int.
func TestSlabOfGreatNumbers(t *testing.T) {
	dims := ints(2, 3)
	zero, one := ints(0, 0), ints(1, 1)
	for _, n := range []int{1 << 61, 1 << 62, 1<<62 + 1, 1 << 63 / 3, most - 1, most, 1 << 32, 1 << 33, 3037000500} {
		wantError(t, dims, slab(zero, one, ints(n, 2), one), api.ErrSelection)
		wantError(t, dims, slab(zero, ints(0, 1), ints(n, 2), one), api.ErrTooBig)
		wantError(t, dims, slab(zero, ints(1, 0), ints(2, n), one), api.ErrTooBig)
		wantError(t, dims, slab(zero, zero, ints(n, n), one), api.ErrTooBig)
		wantError(t, dims, slab(zero, zero, ints(n, n), ints(2, 3)), api.ErrTooBig)
		wantError(t, dims, slab(zero, zero, ints(n, n), ints(2, 4)), api.ErrSelection)
		wantError(t, dims, slab(zero, zero, one, ints(n, 1)), api.ErrSelection)
		wantError(t, dims, slab(zero, zero, ints(n, n), ints(1, n)), api.ErrSelection)
		wantError(t, dims, slab(ints(n, 0), zero, ints(n, n), one), api.ErrSelection)
		wantError(t, dims, slab(ints(0, n), ints(n, n), ints(n, n), ints(n, n)), api.ErrSelection)
		wantError(t, dims, slab(ints(1, 2), ints(n, n), ints(2, 1), one), api.ErrSelection)
		wantError(t, dims, slab(ints(1, 2), ints(n, n), ints(1, 3), one), api.ErrSelection)
		wantError(t, dims, slab(ints(1, 2), ints(n, n), ints(5, 1), one), api.ErrSelection)
		wantTuples(t, dims, slab(ints(1, 2), ints(n, n), one, one), [][]int{{1, 2}}, ints(5))
	}
	// Each of these comes back to a small number, or to 0, if it wraps round.
	wantError(t, dims, slab(zero, ints(1<<62, 1), ints(5, 1), one), api.ErrSelection)
	wantError(t, dims, slab(zero, ints(1<<32, 1), ints(1<<32+1, 1), one), api.ErrSelection)
	wantError(t, dims, slab(ints(1, 1), ints(most, 1), ints(3, 1), one), api.ErrSelection)
	wantError(t, dims, slab(ints(most, 0), one, one, ints(most, 1)), api.ErrSelection)
	wantError(t, dims, slab(zero, zero, ints(1<<32, 1<<32), one), api.ErrTooBig)
	wantError(t, dims, slab(zero, zero, ints(1<<63-1, 1<<63-1), one), api.ErrTooBig)
	wantError(t, dims, slab(zero, zero, ints(1<<62, 4), one), api.ErrTooBig)
	wantError(t, same(4, 4), slab(same(0, 4), same(0, 4), same(1<<32, 4), same(4, 4)), api.ErrTooBig)
	wantError(t, same(4, 4), slab(same(0, 4), same(0, 4), same(1<<16, 4), same(1, 4)), api.ErrTooBig)
}

// P12.2, rule 2: of a hyperslab, ErrArg stands ahead of ErrSelection, and that ahead of ErrTooBig, along whatever dimension.
func TestWhichErrorOfASlab(t *testing.T) {
	dims := ints(5000, 3)
	one := ints(1, 1)
	wantError(t, dims, slab(ints(0, 0), one, ints(5000, 3), one), api.ErrTooBig)
	wantError(t, dims, slab(ints(0, 1), one, ints(5000, 3), one), api.ErrSelection)
	wantError(t, dims, slab(ints(1, 0), one, ints(5000, 3), one), api.ErrSelection)
	wantError(t, dims, slab(ints(0, 3), one, ints(5000, 1), one), api.ErrSelection)
	wantError(t, dims, slab(ints(1, 0), one, ints(5000, 3), ints(1, -1)), api.ErrArg)
	wantError(t, dims, slab(ints(0, 0), one, ints(5000, 3), ints(1)), api.ErrArg)
	wantError(t, dims, slab(ints(1, 0), ints(1, -1), ints(5000, 0), one), api.ErrArg)
	wantError(t, dims, slab(ints(0, 0), ints(0, 0), ints(most, 3), ints(1, 4)), api.ErrSelection)
	wantError(t, dims, slab(ints(0, 0), ints(0, 0), ints(most, 3), ints(1, 3)), api.ErrTooBig)
	wantTuples(t, dims, slab(ints(1, 0), one, ints(5000, 0), one), nil, nil)
}

// P12.2: lists that the Kind does not name are not looked at, whatever they are.
func TestListsThatTheKindDoesNotName(t *testing.T) {
	dims := ints(2, 3)
	for _, l := range [][]int{nil, ints(), ints(-1), ints(-1, -1), ints(0, 0), ints(0, 1), ints(1, 1), ints(most, most), ints(1, 2, 3), same(math.MinInt, 9)} {
		whole := slab(l, l, l, l)
		whole.Kind, whole.Points = api.SelAll, [][]int{l}
		wantPlaces(t, dims, whole, 0, 1, 2, 3, 4, 5)
		some := slab(l, l, l, l)
		some.Kind, some.Points = api.SelPoints, [][]int{{1, 2}, {0, 1}}
		wantPlaces(t, dims, some, 5, 1)
		box := slab(ints(0, 1), ints(1, 1), ints(2, 2), ints(1, 1))
		box.Points = [][]int{l, nil, l}
		wantPlaces(t, dims, box, 1, 2, 4, 5)
		box.Points = slices.Repeat([][]int{l}, api.MaxSelect+1)
		wantPlaces(t, dims, box, 1, 2, 4, 5)
	}
}
