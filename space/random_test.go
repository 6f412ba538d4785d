package space_test

import (
	"math"
	"testing"

	"slabvault/api"
)

// anyDims tells an extent, which is seldom one that may not be.
func (d *dice) anyDims() []int {
	if d.below(10) == 0 {
		return [][]int{nil, ints(), ints(-1), ints(api.MaxDim+1, 0), ints(1, 1, 1, 1, 1), ints(api.MaxDim, 2), ints(api.MaxDim, 0), ints(0, 0)}[d.below(8)]
	}
	dims := ints()
	for range d.below(api.MaxRank + 1) {
		dims = append(dims, d.oneOf(0, 1, 2, 3, 4, 5, 8, 17, 64, 241, 4096, 1<<d.below(21)))
		if d.below(3) > 0 {
			dims[len(dims)-1] = 1 + d.below(9)
		}
	}
	return dims
}

// wild tells a number that is seldom an ordinary one.
func (d *dice) wild() int {
	return d.oneOf(0, 1, 2, 3, 17, 64, 241, 4096, 4097, api.MaxDim-1, api.MaxDim, 1<<31, 1<<32, 1<<62, 1<<62+1, most-1, most)
}

// anyList tells as many numbers as an extent has, which are each below the extent's number and some more; seldom other ones.
func (d *dice) anyList(dims []int, more int) []int {
	l := ints()
	for _, n := range dims {
		x := d.below(max(1, n+more))
		switch d.below(30) {
		case 0:
			x = d.wild()
		case 1:
			x = d.oneOf(0, 1, max(0, n-1), max(0, n), max(0, n)+1)
		}
		l = append(l, x)
	}
	switch d.below(150) {
	case 0:
		l = append(l, 0)
	case 1:
		l = l[:len(l)/2]
	case 2:
		if len(l) > 0 {
			l[d.below(len(l))] = d.oneOf(-1, -2, math.MinInt)
		}
	}
	return l
}

// small tells as many small numbers as an extent has, seldom great ones.
func (d *dice) small(dims []int, least int) []int {
	l := d.anyList(same(1, len(dims)), 2)
	for i := range l {
		if l[i] == 0 && d.below(8) > 0 {
			l[i] = least
		}
	}
	return l
}

// anySelection tells a selection of an extent, of whatever Kind.
func (d *dice) anySelection(dims []int) api.Selection {
	switch d.below(10) {
	case 0:
		return all()
	case 1, 2, 3:
		s := points()
		for range d.below(6) {
			s.Points = append(s.Points, d.anyList(dims, 0))
		}
		return s
	case 4:
		s := slab(d.anyList(dims, 1), d.anyList(dims, 2), d.anyList(dims, 2), d.anyList(dims, 2))
		s.Kind = api.SelKind(d.oneOf(3, 3, 3, 3, 0, 4, -1, math.MinInt))
		return s
	}
	return slab(d.small(dims, 0), d.small(dims, 1), d.small(dims, 1), d.small(dims, 1))
}

// P12.2, P12.3: whatever is selected, all calls answer what the second reading of the chapter says.
func TestAnySelectionAgainstTheModel(t *testing.T) {
	d := dice(12)
	faults := map[api.Errno]int{}
	for range 60000 {
		dims := d.anyDims()
		s := d.anySelection(dims)
		_, e := modelTuples(dims, s)
		faults[e]++
		wantTuplesOfModel(t, dims, s)
	}
	for _, e := range []api.Errno{api.OK, api.ErrArg, api.ErrBig, api.ErrSelection, api.ErrTooBig} {
		if faults[e] < 200 {
			t.Errorf("the error %d came but %d times: the test looks at too little", e, faults[e])
		}
	}
}

// P12.2, rule 6: hyperslabs of wild numbers, of which sums and products often pass an int.
func TestWildSlabsAgainstTheModel(t *testing.T) {
	d := dice(1212)
	faults := map[api.Errno]int{}
	wild := func(rank, calm int) []int {
		l := ints()
		for range rank {
			l = append(l, d.wild())
			if d.below(4) > 0 {
				l[len(l)-1] = calm
			}
		}
		return l
	}
	for range 60000 {
		rank := 1 + d.below(api.MaxRank)
		dims := same(1<<(20/rank), rank)
		s := slab(wild(rank, 0), wild(rank, 0), wild(rank, 1), wild(rank, 1))
		_, e := modelTuples(dims, s)
		faults[e]++
		wantTuplesOfModel(t, dims, s)
	}
	for _, e := range []api.Errno{api.OK, api.ErrSelection, api.ErrTooBig} {
		if faults[e] < 1000 {
			t.Errorf("the error %d came but %d times: the test looks at too little", e, faults[e])
		}
	}
}
