package space_test

import (
	"slices"
	"testing"

	"slabvault/api"
	"slabvault/space"
)

// spare is how many numbers stand behind the length of what is handed in.
const spare = 3

// guarded tells a list with spare room that is filled.
func guarded[E any](l []E, fill E) []E {
	return slices.Concat(l, slices.Repeat([]E{fill}, spare))[:len(l)]
}

// handed tells a selection alike, each list of which has spare room that is filled.
func handed(s api.Selection) api.Selection {
	s.Start, s.Stride = guarded(s.Start, 77), guarded(s.Stride, 77)
	s.Count, s.Block = guarded(s.Count, 77), guarded(s.Block, 77)
	s.Points = guarded(s.Points, ints(77))
	for i := range s.Points {
		s.Points[i] = guarded(s.Points[i], 77)
	}
	return s
}

// lists tells all lists of numbers of an extent and a selection, with their spare room.
func lists(dims []int, s api.Selection) [][]int {
	l := [][]int{dims, s.Start, s.Stride, s.Count, s.Block}
	l = append(l, s.Points[:cap(s.Points)]...)
	for i := range l {
		l[i] = l[i][:cap(l[i])]
	}
	return l
}

// fill writes all over a list, spare room too.
func fill[E any](l []E, with E) {
	l = l[:cap(l)]
	for i := range l {
		l[i] = with
	}
}

// someSelections tells selections of the extent (2 3), good ones and wrong ones.
func someSelections() []api.Selection {
	one := ints(1, 1)
	return []api.Selection{
		all(), points(), points(ints(1, 2), ints(0, 0), ints(1, 2)), points(ints(1, 2), ints(0, 3)), points(ints(1, 2), nil), points(ints(-1, 2)),
		slab(ints(0, 1), one, ints(2, 2), one), slab(ints(0, 0), ints(0, 1), ints(3, 2), ints(2, 2)), slab(ints(0, 1), one, ints(2, 3), one), slab(ints(0, 1), ints(0, 0), ints(most, 2), one),
		slab(ints(9, 9), one, ints(0, 1), one), slab(ints(0, -1), one, one, one), slab(nil, nil, nil, nil), {}, {Kind: 9},
	}
}

// Rule 4: what is handed in is not changed, its spare room neither.
func TestGivenListsAreLeftAlone(t *testing.T) {
	for _, s := range someSelections() {
		for _, dims := range [][]int{ints(2, 3), ints(2), nil, ints(-1), ints(api.MaxDim, api.MaxDim)} {
			given, chosen := guarded(dims, 77), handed(s)
			before := slices.Clone(lists(given, chosen))
			for i := range before {
				before[i] = slices.Clone(before[i])
			}
			space.Elements(given)
			space.Check(given, chosen)
			space.Count(given, chosen)
			space.Tuples(given, chosen)
			space.Places(given, chosen)
			if !equal(before, lists(given, chosen)) {
				t.Errorf("%s: what was handed in is changed", brief(dims, s))
			}
		}
	}
}

// Rule 7: what lies behind a list's length is neither read nor told.
func TestSpareRoomIsNotRead(t *testing.T) {
	dims := guarded(ints(2, 3), -1)
	for _, s := range someSelections() {
		wantAlike(t, dims, handed(s), s)
	}
	s := handed(points(ints(1, 2), ints(0, 1)))
	s.Points = s.Points[:1]
	wantPlaces(t, dims, s, 5)
	if n, e := space.Elements(dims); n != 6 || e != api.OK {
		t.Errorf("Elements answers %d, %d", n, e)
	}
}

// Rule 4: what is told is not kept, and is new memory: writing all over it changes neither what was handed in nor what is told again.
func TestToldListsAreNew(t *testing.T) {
	for _, s := range someSelections() {
		dims, chosen := guarded(ints(2, 3), 77), handed(s)
		want, fault := modelTuples(dims, s)
		before := slices.Clone(lists(dims, chosen))
		for i := range before {
			before[i] = slices.Clone(before[i])
		}
		for range 2 {
			l, e := space.Tuples(dims, chosen)
			if e != fault || !equal(l, want) {
				t.Errorf("%s: Tuples answers %v, %d", brief(dims, s), l, e)
			}
			at, e := space.Places(dims, chosen)
			if e != fault || len(at) != len(want) {
				t.Errorf("%s: Places answers %v, %d", brief(dims, s), at, e)
			}
			for _, tuple := range l {
				fill(tuple, 99)
			}
			fill(l, ints(98))
			fill(at, 97)
			if !equal(before, lists(dims, chosen)) {
				t.Errorf("%s: what was told is what was handed in", brief(dims, s))
			}
		}
	}
}

// Rule 4: each tuple is memory of its own, spare room too: writing over one, or behind it, changes no other.
func TestEachTupleIsItsOwn(t *testing.T) {
	same := ints(1, 2)
	for _, s := range []api.Selection{
		all(), points(ints(1, 2), ints(1, 2), ints(0, 1)), points(same, same, same), points(same[:2:2], same[:2:2]),
		slab(ints(0, 1), ints(1, 1), ints(2, 2), ints(1, 1)), slab(ints(0, 0), ints(0, 0), ints(3, 2), ints(2, 3)),
	} {
		dims := ints(2, 3)
		want, _ := modelTuples(dims, s)
		want = slices.Clone(want)
		for i := range want {
			want[i] = slices.Clone(want[i])
		}
		l, e := space.Tuples(dims, s)
		if e != api.OK || !equal(l, want) {
			t.Errorf("%s: Tuples answers %v, %d", brief(dims, s), l, e)
		}
		for i := range l {
			fill(l[i], -1-i)
			_ = append(l[i], -1-i, -1-i, -1-i)
		}
		for i := range l {
			if !slices.Equal(l[i], ints(-1-i, -1-i)) {
				t.Errorf("%s: tuple %d is not its own: %v", brief(dims, s), i, l[i])
			}
		}
		wantTuples(t, dims, s, want, placesOf(dims, want))
	}
}

// placesOf tells the places of tuples.
func placesOf(dims []int, l [][]int) []int {
	var at []int
	for _, tuple := range l {
		at = append(at, modelPlace(dims, tuple))
	}
	return at
}

// Rule 4: what is handed in may be changed behind a call, without what was told being changed.
func TestToldListsDoNotFollow(t *testing.T) {
	for _, s := range someSelections() {
		dims, chosen := ints(2, 3), handed(s)
		want, fault := modelTuples(dims, s)
		l, e := space.Tuples(dims, chosen)
		at, f := space.Places(dims, chosen)
		for _, given := range lists(dims, chosen) {
			fill(given, 55)
		}
		fill(chosen.Points, ints(5))
		if e != fault || f != fault || !equal(l, want) || fault == api.OK && !slices.Equal(at, placesOf(ints(2, 3), want)) {
			t.Errorf("%s: Tuples answers %v, %d, Places %v, %d", brief(ints(2, 3), s), l, e, at, f)
		}
	}
}
