package space_test

import (
	"slices"
	"testing"

	"slabvault/api"
	"slabvault/space"
)

// wantAlike holds that two selections of an extent select the same, in the same order.
func wantAlike(t *testing.T, dims []int, a, b api.Selection) {
	t.Helper()
	n, e := space.Count(dims, a)
	if m, f := space.Count(dims, b); n != m || e != f {
		t.Errorf("%s: Count answers %d, %d; of %+v: %d, %d", brief(dims, a), n, e, b, m, f)
	}
	x, e := space.Tuples(dims, a)
	if y, f := space.Tuples(dims, b); !equal(x, y) || e != f {
		t.Errorf("%s: Tuples answers %v, %d; of %+v: %v, %d", brief(dims, a), x, e, b, y, f)
	}
	p, e := space.Places(dims, a)
	if q, f := space.Places(dims, b); !slices.Equal(p, q) || e != f {
		t.Errorf("%s: Places answers %v, %d; of %+v: %v, %d", brief(dims, a), p, e, b, q, f)
	}
	if e, f := space.Check(dims, a), space.Check(dims, b); e != f {
		t.Errorf("%s: Check answers %d; of %+v: %d", brief(dims, a), e, b, f)
	}
}

// someDims tells extents of all ranks.
func someDims() [][]int {
	return [][]int{
		nil, ints(0), ints(1), ints(2), ints(7), ints(64), ints(4096), ints(4097), ints(api.MaxDim), ints(2, 3), ints(3, 2), ints(0, 3), ints(3, 0), ints(64, 64), ints(1, 1), ints(17, 241),
		ints(2, 3, 4), ints(4, 1, 4), ints(5, 0, 5), ints(2, 3, 4, 5), ints(8, 8, 8, 8), ints(1, 1, 1, 1), ints(8, 8, 8, 9), ints(api.MaxDim, 0, api.MaxDim, 2), ints(32, 32, 32, 32),
	}
}

// goodSlab tells a hyperslab of an extent that has an element; it selects something, and nothing outside.
func (d *dice) goodSlab(dims []int) api.Selection {
	s := slab(nil, nil, nil, nil)
	for _, n := range dims {
		start := d.below(n)
		block := 1 + d.below(min(n-start, 4))
		room := n - start - block
		stride := d.below(room + 2)
		count := 1 + d.below(3)
		if stride > 0 {
			count = 1 + d.below(min(room/stride, 3)+1)
		}
		s.Start, s.Stride = append(s.Start, start), append(s.Stride, stride)
		s.Count, s.Block = append(s.Count, count), append(s.Block, block)
	}
	return s
}

// goodDims tells a small extent that has an element.
func (d *dice) goodDims(rank int) []int {
	dims := ints()
	for range rank {
		dims = append(dims, 1+d.below(7))
	}
	return dims
}

// P12.4: a hyperslab selects what the points of its tuples select.
func TestSlabsAndTheirPoints(t *testing.T) {
	d := dice(124)
	for i := range 4000 {
		dims := d.goodDims(i % (api.MaxRank + 1))
		s := d.goodSlab(dims)
		l, e := space.Tuples(dims, s)
		if e == api.ErrTooBig {
			continue
		}
		if e != api.OK || len(l) == 0 {
			t.Errorf("%s: Tuples answers %v, %d", brief(dims, s), l, e)
		}
		wantAlike(t, dims, s, points(l...))
	}
	for _, dims := range someDims() {
		none := same(0, len(dims))
		if len(dims) > 0 {
			wantAlike(t, dims, slab(same(9, len(dims)), none, none, none), points())
		}
	}
}

// P12.4: the tuples that are selected are those that the words of the chapter name: each number is Start + i times Stride + j.
func TestSlabsByTheirWords(t *testing.T) {
	d := dice(1241)
	for i := range 2000 {
		dims := d.goodDims(i % (api.MaxRank + 1))
		wantTuplesOfModel(t, dims, d.goodSlab(dims))
	}
}

// P12.5: SelAll selects what the hyperslab from 0 on with the steps 1 and all counts selects, and the hyperslab of one block of the whole.
func TestAllAsSlabs(t *testing.T) {
	for _, dims := range someDims() {
		zero, one := same(0, len(dims)), same(1, len(dims))
		wantAlike(t, dims, all(), slab(zero, one, dims, one))
		for _, stride := range []int{0, 1, 2, most} {
			wantAlike(t, dims, all(), slab(zero, same(stride, len(dims)), one, dims))
		}
	}
	d := dice(125)
	for i := range 500 {
		dims := d.goodDims(i % (api.MaxRank + 1))
		zero, one := same(0, len(dims)), same(1, len(dims))
		wantAlike(t, dims, all(), slab(zero, one, dims, one))
		wantAlike(t, dims, all(), slab(zero, one, one, dims))
	}
}

// P12.6: a hyperslab that selects something is ErrSelection, if it is moved by the extent along a dimension, or farther.
func TestSlabsMovedBeyond(t *testing.T) {
	d := dice(126)
	for i := range 1500 {
		dims := d.goodDims(1 + i%api.MaxRank)
		s := d.goodSlab(dims)
		at := d.below(len(dims))
		moved := s
		moved.Start = slices.Clone(s.Start)
		moved.Start[at] += dims[at]
		wantError(t, dims, moved, api.ErrSelection)
		moved.Start[at] = most - d.below(3)
		wantError(t, dims, moved, api.ErrSelection)
		// One that selects nothing may be moved anywhere.
		moved.Count = slices.Clone(s.Count)
		moved.Count[d.below(len(dims))] = 0
		wantTuples(t, dims, moved, nil, nil)
	}
}

// P12.6: a hyperslab with a last step that leads beyond the extent is ErrSelection.
func TestSlabsWithAStepBeyond(t *testing.T) {
	d := dice(1261)
	for i := range 1500 {
		dims := d.goodDims(1 + i%api.MaxRank)
		s := d.goodSlab(dims)
		at := d.below(len(dims))
		farther := s
		farther.Count, farther.Stride = slices.Clone(s.Count), slices.Clone(s.Stride)
		// The least stride that leads the step behind the first one beyond, by its last number.
		farther.Count[at] = 2
		farther.Stride[at] = dims[at] - s.Start[at] - s.Block[at] + 1
		wantError(t, dims, farther, api.ErrSelection)
		farther.Stride[at]--
		wantTuplesOfModel(t, dims, farther)
		if farther.Stride[at] > 0 {
			farther.Count[at] = 3
			wantError(t, dims, farther, api.ErrSelection)
		}
		farther.Count[at], farther.Stride[at] = 2+d.below(5), d.oneOf(dims[at], dims[at]+1, 1<<62, most)
		wantError(t, dims, farther, api.ErrSelection)
	}
}

// P12.7: places are below Elements, and a place leads back to its tuple.
func TestPlacesLeadBack(t *testing.T) {
	d := dice(127)
	for i := range 2000 {
		dims := d.goodDims(i % (api.MaxRank + 1))
		s := []api.Selection{all(), d.goodSlab(dims), points(tupleAt(dims, 0), d.tuple(dims), d.tuple(dims))}[i%3]
		l, e := space.Tuples(dims, s)
		if e == api.ErrTooBig {
			continue
		}
		at, f := space.Places(dims, s)
		n, g := space.Elements(dims)
		if e != api.OK || f != api.OK || g != api.OK || len(l) != len(at) {
			t.Fatalf("%s: %d tuples, %d; %d places, %d; Elements answers %d", brief(dims, s), len(l), e, len(at), f, g)
		}
		for i, p := range at {
			if p < 0 || p >= n || !slices.Equal(tupleAt(dims, p), l[i]) {
				t.Errorf("%s: %v has the place %d of %d", brief(dims, s), l[i], p, n)
			}
		}
	}
}

// tuple tells one that lies within an extent.
func (d *dice) tuple(dims []int) []int {
	l := ints()
	for _, n := range dims {
		l = append(l, d.below(n))
	}
	return l
}

// P12.7: the places of SelAll rise by one, from 0 on, to the last one below Elements.
func TestPlacesOfAll(t *testing.T) {
	for _, dims := range someDims() {
		n, _ := space.Elements(dims)
		if n > api.MaxSelect {
			wantError(t, dims, all(), api.ErrTooBig)
			continue
		}
		if at, e := space.Places(dims, all()); !slices.Equal(at, upTo(n)) || e != api.OK {
			t.Errorf("the places of all of %v are %v, %d", dims, at, e)
		}
	}
}

// P12.7: two tuples of an extent that are not the same have two places.
func TestPlacesAreApart(t *testing.T) {
	dims := ints(3, 4, 2, 5)
	seen := map[int][]int{}
	for i := range 3 {
		for j := range 4 {
			for k := range 2 {
				for l := range 5 {
					at, e := space.Places(dims, points(ints(i, j, k, l)))
					if e != api.OK || len(at) != 1 || seen[at[0]] != nil {
						t.Fatalf("(%d %d %d %d) has the places %v, %d", i, j, k, l, at, e)
					}
					seen[at[0]] = ints(i, j, k, l)
				}
			}
		}
	}
}
