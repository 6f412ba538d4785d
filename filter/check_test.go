package filter_test

import (
	"testing"

	"slabvault/api"
)

// P16.1: the document's examples.
func TestCheckExamples(t *testing.T) {
	wantCheck(t, pipe(shuffled(0)), api.ErrArg)
	wantCheck(t, pipe(api.Filter{Kind: api.FilterMatch, Width: 1}), api.ErrArg)
	wantCheck(t, make([]api.Filter, 5), api.ErrBig)
	wantCheck(t, times(5, summed()), api.ErrBig)
}

// P16.1: no filter, each one alone, each two in either order, and the same one as often as there is room.
func TestCheckOfFiltersThatMayBe(t *testing.T) {
	wantCheck(t, nil, api.OK)
	wantCheck(t, []api.Filter{}, api.OK)
	for _, l := range short() {
		wantCheck(t, l, api.OK)
	}
	for _, f := range all() {
		for n := range api.MaxFilters + 1 {
			wantCheck(t, times(n, f), api.OK)
		}
	}
	for _, l := range rows(api.MaxFilters, some()) {
		wantCheck(t, l, api.OK)
	}
}

// P16.1: a filter that may not be, alone and at each place among others that may.
func TestCheckOfFiltersThatMayNotBe(t *testing.T) {
	for _, f := range wrong() {
		for n := 1; n <= api.MaxFilters; n++ {
			wantCheck(t, times(n, f), api.ErrArg)
			for at := range n {
				for _, good := range some() {
					l := times(n, good)
					l[at] = f
					wantCheck(t, l, api.ErrArg)
				}
			}
		}
	}
}

// P16.1: each kind and width about the edges, against the second reading.
func TestCheckOfEachKindAndWidth(t *testing.T) {
	for kind := -300; kind <= 300; kind++ {
		for width := -20; width <= 20; width++ {
			l := pipe(api.Filter{Kind: api.FilterKind(kind), Width: width})
			wantCheck(t, l, modelCheck(l))
		}
	}
	for _, kind := range []api.FilterKind{api.FilterShuffle, api.FilterDelta, api.FilterMatch, api.FilterSum} {
		for width := -70000; width <= 70000; width++ {
			l := pipe(api.Filter{Kind: kind, Width: width})
			wantCheck(t, l, modelCheck(l))
		}
	}
}

// P16.1: more than MaxFilters are ErrBig, also where there are wrong ones among them, wherever these stand.
func TestCheckOfTooManyFilters(t *testing.T) {
	for _, n := range []int{api.MaxFilters + 1, api.MaxFilters + 2, 2 * api.MaxFilters, 255, 256, 257, 260, 65536, 65540} {
		for _, f := range some() {
			wantCheck(t, times(n, f), api.ErrBig)
		}
		wantCheck(t, make([]api.Filter, n), api.ErrBig)
	}
	for _, f := range wrong() {
		wantCheck(t, times(api.MaxFilters+1, f), api.ErrBig)
		for at := range api.MaxFilters + 1 {
			l := times(api.MaxFilters+1, matched())
			l[at] = f
			wantCheck(t, l, api.ErrBig)
		}
	}
}
