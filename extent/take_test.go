package extent_test

import (
	"math"
	"slices"
	"testing"

	"slabvault/api"
	"slabvault/extent"
)

// badLists tells such as are not good within MaxFile, each for a reason of its own.
func badLists() [][]api.Extent {
	out := [][]api.Extent{
		list(0, 2, 2, 3), list(0, 4, 2, 4), list(0, 9, 3, 2), list(2, 3, 2, 3), list(8, 2, 0, 2),
		list(4, 0), list(0, 2, 5, 0), list(0, 2, 5, 0, 9, 3),
		comb(api.MaxItems+1, 0, 2, 1), comb(api.MaxItems+1, 0, 63, 60),
	}
	for _, x := range wrongOnes {
		out = append(out, []api.Extent{x}, with(list(0, 50), x), with([]api.Extent{x}, list(100, 50)...))
	}
	return out
}

func wantTake(t *testing.T, l []api.Extent, n, at int, want []api.Extent, errno api.Errno) {
	t.Helper()
	gotAt, got, e := extent.Take(l, n)
	wantList(t, "Take", l, got, e, want, errno)
	if gotAt != at {
		t.Fatalf("Take of %d: %v, %d: At %d; want %d", len(l), shown(l), n, gotAt, at)
	}
}

func wantGive(t *testing.T, l []api.Extent, x api.Extent, want []api.Extent, errno api.Errno) {
	t.Helper()
	got, e := extent.Give(l, x)
	wantList(t, "Give", with(l, x), got, e, want, errno)
}

// P5.3: each number of bytes, of the good list of each set of bytes.
func TestTakeOfAllSetsOfBytes(t *testing.T) {
	for _, base := range windows {
		for _, l := range goodLists(base) {
			for n := 1; n <= window+1; n++ {
				counts := having(l, base, base+window)
				place := firstRun(counts, n)
				if place < 0 {
					wantTake(t, l, n, 0, nil, api.ErrFull)
					continue
				}
				clear(counts[place : place+n])
				wantTake(t, l, n, base+place, runs(counts, base, some), api.OK)
			}
		}
	}
}

// firstRun tells the first place from which on so many bytes are there, or -1. In a good list it is where an extent begins.
func firstRun(counts []int, n int) int {
	for place := 0; place+n <= len(counts); place++ {
		if !slices.Contains(counts[place:place+n], 0) {
			return place
		}
	}
	return -1
}

// P5.3: those of the chapter, and others that are written out.
func TestTakeOfExamples(t *testing.T) {
	l := list(0, 2, 5, 5)
	wantTake(t, l, 3, 5, list(0, 2, 8, 2), api.OK)
	wantTake(t, l, 6, 0, nil, api.ErrFull)
	wantTake(t, l, 1, 0, list(1, 1, 5, 5), api.OK)
	wantTake(t, l, 2, 0, list(5, 5), api.OK)
	wantTake(t, l, 4, 5, list(0, 2, 9, 1), api.OK)
	wantTake(t, l, 5, 5, list(0, 2), api.OK)
	// The first one that has the bytes is taken, not the one that fits best.
	wantTake(t, list(0, 9, 20, 3), 3, 0, list(3, 6, 20, 3), api.OK)
	wantTake(t, list(0, 2, 20, 9, 40, 3), 3, 20, list(0, 2, 23, 6, 40, 3), api.OK)
	// All bytes together would do, but no extent has them alone.
	wantTake(t, list(0, 2, 3, 2, 6, 2), 3, 0, nil, api.ErrFull)
	wantTake(t, nil, 1, 0, nil, api.ErrFull)
	wantTake(t, []api.Extent{}, api.MaxFile, 0, nil, api.ErrFull)
}

// P5.3: a whole file, at the limits of Go's numbers.
func TestTakeOfAWholeFile(t *testing.T) {
	l := list(0, api.MaxFile)
	wantTake(t, l, 1, 0, list(1, api.MaxFile-1), api.OK)
	wantTake(t, l, api.MaxFile-1, 0, list(api.MaxFile-1, 1), api.OK)
	wantTake(t, l, api.MaxFile, 0, nil, api.OK)
	for _, n := range []int{api.MaxFile + 1, 1 << 32, 1 << 62, math.MaxInt} {
		wantTake(t, l, n, 0, nil, api.ErrFull)
	}
	wantTake(t, list(api.MaxFile-3, 3), 2, api.MaxFile-3, list(api.MaxFile-1, 1), api.OK)
	wantTake(t, list(api.MaxFile-3, 3), 3, api.MaxFile-3, nil, api.OK)
	wantTake(t, list(api.MaxFile-3, 3), 4, 0, nil, api.ErrFull)
}

// P5.3: ErrArg ahead of ErrFull.
func TestTakeRefuses(t *testing.T) {
	for _, n := range []int{0, -1, -64, math.MinInt} {
		for _, l := range [][]api.Extent{nil, list(0, 2), list(0, api.MaxFile), list(0, 0), comb(api.MaxItems+1, 0, 2, 1)} {
			wantTake(t, l, n, 0, nil, api.ErrArg)
		}
	}
	for _, l := range badLists() {
		for _, n := range []int{1, 2, 50, api.MaxFile + 1, math.MaxInt} {
			wantTake(t, l, n, 0, nil, api.ErrArg)
		}
	}
}

// P5.3: of as many extents as there may be.
func TestTakeOfManyExtents(t *testing.T) {
	l := comb(api.MaxItems, 1, 64, 50)
	last := api.MaxItems - 1
	l[last].Size = 63
	wantTake(t, l, 50, 1, l[1:], api.OK)
	wantTake(t, l, 63, l[last].At, l[:last], api.OK)
	wantTake(t, l, 51, l[last].At, with(l[:last], api.Extent{At: l[last].At + 51, Size: 12}), api.OK)
	wantTake(t, l, 49, 1, with(list(50, 1), l[1:]...), api.OK)
	wantTake(t, l, 64, 0, nil, api.ErrFull)
}

// P5.3: each extent of a window, to the good list of each set of its bytes.
func TestGiveToAllSetsOfBytes(t *testing.T) {
	for _, base := range windows {
		for _, l := range goodLists(base) {
			for _, x := range pieces(base) {
				counts := having(with(l, x), base, base+window)
				if slices.ContainsFunc(counts, several) {
					wantGive(t, l, x, nil, api.ErrExists)
					continue
				}
				wantGive(t, l, x, runs(counts, base, some), api.OK)
			}
		}
	}
}

// P5.3: those of the chapter, and others that are written out.
func TestGiveOfExamples(t *testing.T) {
	l := list(0, 2, 8, 2)
	wantGive(t, l, api.Extent{At: 2, Size: 6}, list(0, 10), api.OK)
	wantGive(t, l, api.Extent{At: 1, Size: 1}, nil, api.ErrExists)
	wantGive(t, l, api.Extent{At: 2, Size: 5}, list(0, 7, 8, 2), api.OK)
	wantGive(t, l, api.Extent{At: 3, Size: 5}, list(0, 2, 3, 7), api.OK)
	wantGive(t, l, api.Extent{At: 4, Size: 2}, list(0, 2, 4, 2, 8, 2), api.OK)
	wantGive(t, l, api.Extent{At: 12, Size: 1}, list(0, 2, 8, 2, 12, 1), api.OK)
	wantGive(t, l, api.Extent{At: 10, Size: 1}, list(0, 2, 8, 3), api.OK)
	wantGive(t, l, api.Extent{At: 2, Size: 7}, nil, api.ErrExists)
	wantGive(t, l, api.Extent{At: 0, Size: 20}, nil, api.ErrExists)
	wantGive(t, list(3, 9), api.Extent{At: 5, Size: 1}, nil, api.ErrExists)
	wantGive(t, list(3, 9), api.Extent{At: 3, Size: 9}, nil, api.ErrExists)
	wantGive(t, nil, api.Extent{At: 5, Size: 3}, list(5, 3), api.OK)
	wantGive(t, nil, api.Extent{Size: api.MaxFile}, list(0, api.MaxFile), api.OK)
	wantGive(t, list(0, 1), api.Extent{At: 1, Size: api.MaxFile - 1}, list(0, api.MaxFile), api.OK)
	wantGive(t, list(0, 1), api.Extent{At: 0, Size: api.MaxFile}, nil, api.ErrExists)
}

// P5.3: an extent without a byte changes nothing, wherever it is, if it may be.
func TestGiveOfNoByte(t *testing.T) {
	for _, l := range [][]api.Extent{nil, list(0, api.MaxFile), list(0, 2, 8, 2), comb(api.MaxItems, 1, 64, 63)} {
		for _, at := range []int{0, 1, 2, 3, 8, 9, 10, api.MaxFile - 1, api.MaxFile} {
			wantGive(t, l, api.Extent{At: at}, l, api.OK)
		}
	}
}

// P5.3: ErrArg ahead of ErrExists and ErrBig.
func TestGiveRefuses(t *testing.T) {
	for _, l := range badLists() {
		for _, x := range append(edgeOnes, wrongOnes...) {
			wantGive(t, l, x, nil, api.ErrArg)
		}
	}
	for _, l := range [][]api.Extent{nil, list(0, 2, 8, 2), list(0, api.MaxFile), comb(api.MaxItems, 0, 2, 1)} {
		for _, x := range wrongOnes {
			wantGive(t, l, x, nil, api.ErrArg)
		}
	}
}

// P5.3: to as many extents as there may be, and to one fewer.
func TestGiveToManyExtents(t *testing.T) {
	l := comb(api.MaxItems, 2, 8, 4)
	last := l[api.MaxItems-1].At
	behind := api.Extent{At: last + 6, Size: 1}
	wantGive(t, l, api.Extent{At: 0, Size: 1}, nil, api.ErrBig)
	wantGive(t, l, api.Extent{At: 7, Size: 2}, nil, api.ErrBig)
	wantGive(t, l, behind, nil, api.ErrBig)
	wantGive(t, l, api.Extent{At: 3, Size: 1}, nil, api.ErrExists)
	wantGive(t, l, api.Extent{At: last, Size: 9}, nil, api.ErrExists)
	wantGive(t, l, api.Extent{At: 0, Size: 2}, with(list(0, 6), l[1:]...), api.OK)
	wantGive(t, l, api.Extent{At: 6, Size: 1}, with(list(2, 5), l[1:]...), api.OK)
	wantGive(t, l, api.Extent{At: 6, Size: 4}, with(list(2, 12), l[2:]...), api.OK)
	wantGive(t, l, api.Extent{At: last + 4, Size: 1}, with(l[:api.MaxItems-1], api.Extent{At: last, Size: 5}), api.OK)
	wantGive(t, l[:api.MaxItems-1], behind, with(l[:api.MaxItems-1], behind), api.OK)
	wantGive(t, l[1:], api.Extent{At: 2, Size: 4}, l, api.OK)
}

// wantBack asks that what is taken from a list has no byte in common with what is left, and makes that list when it is given back.
func wantBack(t *testing.T, l []api.Extent, n int) {
	t.Helper()
	at, left, e := extent.Take(l, n)
	if e != api.OK {
		t.Fatalf("Take of %v, %d: error %d", shown(l), n, int(e))
	}
	x := api.Extent{At: at, Size: n}
	if extent.Meets(with(left, x)) || extent.Total(left)+n != extent.Total(l) {
		t.Fatalf("Take of %v, %d: %v, %v", shown(l), n, x, shown(left))
	}
	wantGood(t, left, api.MaxFile, true)
	wantGive(t, left, x, l, api.OK)
}

// P5.7
func TestTakenAndGivenBack(t *testing.T) {
	for _, base := range windows {
		for _, l := range goodLists(base) {
			longest := 0
			for _, x := range l {
				longest = max(longest, x.Size)
			}
			for n := range longest {
				wantBack(t, l, n+1)
			}
		}
	}
	for _, n := range []int{1, 2, 62, 63} {
		wantBack(t, comb(api.MaxItems, 1, 64, 63), n)
	}
	for _, n := range []int{1, api.MaxFile / 2, api.MaxFile - 1, api.MaxFile} {
		wantBack(t, list(0, api.MaxFile), n)
	}
}

// P5.7: many pieces taken one behind the other, and given back in another order, make the list that there was.
func TestManyTakenAndGivenBack(t *testing.T) {
	for seed := range 200 {
		first, _ := extent.Normal(scattered(seed, 20, 1000, 60))
		c, l, taken := chance(seed), first, []api.Extent(nil)
		for range 100 {
			n := 1 + c.below(20)
			at, left, e := extent.Take(l, n)
			if e == api.OK {
				l, taken = left, append(taken, api.Extent{At: at, Size: n})
			}
		}
		if len(taken) < 5 || extent.Meets(with(l, taken...)) {
			t.Fatalf("%v: taken: %v; left: %v", first, taken, l)
		}
		for len(taken) > 0 {
			i := c.below(len(taken))
			given, e := extent.Give(l, taken[i])
			if e != api.OK {
				t.Fatalf("Give(%v, %v): error %d", l, taken[i], int(e))
			}
			l, taken = given, slices.Delete(taken, i, i+1)
		}
		if !slices.Equal(l, first) {
			t.Fatalf("%v has become %v", first, l)
		}
	}
}
