package extent_test

import (
	"slices"
	"testing"

	"slabvault/api"
	"slabvault/extent"
)

func wantTotal(t *testing.T, l []api.Extent, want int) {
	t.Helper()
	if got := extent.Total(l); got != want {
		t.Fatalf("Total of %d: %v: %d; want %d", len(l), shown(l), got, want)
	}
}

func wantMeets(t *testing.T, l []api.Extent, want bool) {
	t.Helper()
	if got := extent.Meets(l); got != want {
		t.Fatalf("Meets of %d: %v: %t", len(l), shown(l), got)
	}
}

// P5.4
func TestTotalAndMeetsOfSmallLists(t *testing.T) {
	for _, base := range windows {
		for l := range smallLists(base) {
			counts, sum := having(l, base, base+window), 0
			for _, count := range counts {
				sum += count
			}
			wantTotal(t, l, sum)
			wantMeets(t, l, slices.ContainsFunc(counts, several))
		}
	}
}

// P5.4: extents that are few enough for their room that some lists of them meet, and others do not.
func TestMeetsOfScatteredLists(t *testing.T) {
	meeting := 0
	for seed := range 3000 {
		l := scattered(seed, 2+seed%5, 100, 1+seed%30)
		want := slices.ContainsFunc(having(l, 0, 100), several)
		wantMeets(t, l, want)
		slices.Reverse(l)
		wantMeets(t, l, want)
		if want {
			meeting++
		}
	}
	if meeting < 300 || meeting > 2700 {
		t.Errorf("%d lists of 3000 meet", meeting)
	}
}

// P5.4: those that are written out.
func TestMeetsOfExamples(t *testing.T) {
	for _, x := range []struct {
		l    []api.Extent
		want bool
	}{
		{nil, false},
		{list(0, api.MaxFile), false},
		{list(0, 2, 1, 2), true},
		{list(0, 2, 2, 2), false},                              // they touch
		{list(2, 2, 0, 2), false},                              // likewise, the other way about
		{list(0, 9, 3, 2), true},                               // one lies within the other
		{list(3, 2, 0, 9), true},                               // likewise, the other way about
		{list(3, 2, 3, 2), true},                               // one stands twice
		{list(3, 0, 3, 0), false},                              // one without a byte stands twice
		{list(0, 9, 3, 0), false},                              // one without a byte lies within the other
		{list(3, 0, 3, 5, 3, 0), false},                        // or where it begins
		{list(0, 100, 200, 1, 300, 1, 50, 1), true},            // far from one another in the list
		{list(0, api.MaxFile, api.MaxFile-1, 1), true},         // the last byte of all
		{list(0, api.MaxFile-1, api.MaxFile-1, 1), false},      // they touch there
		{list(0, api.MaxFile, api.MaxFile, 0, 0, 0), false},    // without a byte at both ends
		{list(api.MaxFile-1, 1, 5, 1, api.MaxFile-1, 1), true}, // one of them twice
	} {
		wantMeets(t, x.l, x.want)
	}
}

// P5.4: those that may not be count in neither, wherever they stand and however often.
func TestThoseThatMayNotBeDoNotCount(t *testing.T) {
	for _, x := range wrongOnes {
		wantTotal(t, []api.Extent{x}, 0)
		wantTotal(t, []api.Extent{x, x, x}, 0)
		wantTotal(t, with(list(0, 5), x, api.Extent{At: 2, Size: 9}), 14)
		wantMeets(t, []api.Extent{x, x}, false)
		wantMeets(t, with(list(0, 5, 5, api.MaxFile-5), x), false)
		wantMeets(t, with([]api.Extent{x}, list(0, api.MaxFile)...), false)
		wantMeets(t, with(list(0, 5), x, api.Extent{At: 4, Size: 1}), true)
	}
	wantTotal(t, wrongOnes, 0)
	wantMeets(t, wrongOnes, false)
	wantMeets(t, with(wrongOnes, wrongOnes...), false)
}

// P5.4: Sizes count as often as they stand there, whether they have bytes in common or not.
func TestTotalAtTheEdges(t *testing.T) {
	wantTotal(t, nil, 0)
	wantTotal(t, list(0, 2, 8, 2), 4)
	wantTotal(t, list(0, 2, 0, 2, 1, 1), 5)
	wantTotal(t, list(5, 0, 0, 0, api.MaxFile, 0), 0)
	for _, x := range edgeOnes {
		wantTotal(t, []api.Extent{x}, x.Size)
		wantTotal(t, []api.Extent{x, x}, 2*x.Size)
	}
}

// P5.4: neither has a limit of extents.
func TestTotalAndMeetsOfManyExtents(t *testing.T) {
	for _, count := range []int{api.MaxItems, api.MaxItems + 1, 5 * api.MaxItems} {
		wantTotal(t, comb(count, 0, 0, api.MaxFile), count<<22)
		wantMeets(t, comb(count, 0, 0, api.MaxFile), true)
		apart := comb(count, 0, 3, 3)
		wantTotal(t, apart, 3*count)
		wantMeets(t, apart, false)
		slices.Reverse(apart)
		wantMeets(t, apart, false)
		for _, x := range []api.Extent{{At: 0, Size: 1}, {At: 3*count - 1, Size: 2}, {At: count, Size: 1}} {
			wantMeets(t, with(apart, x), true)
			wantMeets(t, with([]api.Extent{x}, apart...), true)
		}
		wantMeets(t, with(apart, api.Extent{At: 3 * count, Size: 1}), false)
	}
}
