package extent_test

import (
	"iter"
	"math"
	"math/big"
	"slices"
	"testing"

	"slabvault/api"
	"slabvault/extent"
)

// list tells extents by their Ats and Sizes, one behind the other.
func list(numbers ...int) []api.Extent {
	var l []api.Extent
	for pair := range slices.Chunk(numbers, 2) {
		l = append(l, api.Extent{At: pair[0], Size: pair[1]})
	}
	return l
}

// comb tells so many extents, each of which begins a step behind the one ahead.
func comb(count, at, step, size int) []api.Extent {
	l := make([]api.Extent, count)
	for i := range l {
		l[i] = api.Extent{At: at + i*step, Size: size}
	}
	return l
}

// with tells a list with others behind it, in new memory.
func with(l []api.Extent, more ...api.Extent) []api.Extent { return slices.Concat(l, more) }

// wrongOnes may not be: also such as would, if their end were reckoned as an int is.
var wrongOnes = list(
	-1, 0, -1, 1, -1, 2, -9, 20, 0, -1, 5, -1, 5, -5, api.MaxFile, -1, api.MaxFile+1, -1,
	api.MaxFile, 1, api.MaxFile-1, 2, 0, api.MaxFile+1, 1, api.MaxFile, api.MaxFile+1, 0, api.MaxFile+1, 1,
	math.MinInt, 0, math.MinInt, math.MinInt, math.MinInt, math.MaxInt, math.MaxInt, math.MaxInt, math.MaxInt, math.MinInt,
	math.MaxInt, 0, math.MaxInt, 1, 1, math.MaxInt, 0, math.MinInt, 1<<62, 1<<62, 1<<62, 0, 0, 1<<62, 1<<32, 1, 1, 1<<32,
)

// edgeOnes may be, but only just.
var edgeOnes = list(0, 0, 0, 1, 0, api.MaxFile, 1, api.MaxFile-1, api.MaxFile-1, 1, api.MaxFile-1, 0, api.MaxFile, 0, 2, api.MaxFile-3)

// wrongSizes are such as no file has.
var wrongSizes = []int{-1, api.MaxFile + 1, -64, math.MinInt, math.MaxInt, 1 << 32}

// may says whether an extent may be, in whole numbers of any size.
func may(x api.Extent) bool {
	end := new(big.Int).Add(big.NewInt(int64(x.At)), big.NewInt(int64(x.Size)))
	return x.At >= 0 && x.Size >= 0 && end.Cmp(big.NewInt(api.MaxFile)) <= 0
}

// having counts of each byte from one place to another how many extents have it, byte by byte. All must lie there.
func having(l []api.Extent, from, to int) []int {
	out := make([]int, to-from)
	for _, x := range l {
		for i := range x.Size {
			out[x.At+i-from]++
		}
	}
	return out
}

// runs tells as extents which of the bytes from a place on are such.
func runs(counts []int, from int, is func(count int) bool) []api.Extent {
	var out []api.Extent
	ahead := false
	for i, count := range counts {
		here := is(count)
		switch {
		case here && ahead:
			out[len(out)-1].Size++
		case here:
			out = append(out, api.Extent{At: from + i, Size: 1})
		}
		ahead = here
	}
	return out
}

func some(count int) bool    { return count > 0 }
func none(count int) bool    { return count == 0 }
func several(count int) bool { return count > 1 }

// window is how many bytes the lists of windows have room in.
const window = 8

// windows are where they begin: at a file's first byte, somewhere, and so that the last byte is the last one of all.
var windows = []int{0, 1000, api.MaxFile - window}

// pieces tells all extents of a window, with and without a byte.
func pieces(base int) []api.Extent {
	var out []api.Extent
	for at := range window + 1 {
		for size := range window - at + 1 {
			out = append(out, api.Extent{At: base + at, Size: size})
		}
	}
	return out
}

// lists tells all lists of some length that are made of some extents. The list is told in the same memory each time.
func lists(count int, of []api.Extent) iter.Seq[[]api.Extent] {
	return func(yield func([]api.Extent) bool) {
		l := make([]api.Extent, count)
		var fill func(place int) bool
		fill = func(place int) bool {
			if place == count {
				return yield(l)
			}
			for _, l[place] = range of {
				if !fill(place + 1) {
					return false
				}
			}
			return true
		}
		fill(0)
	}
}

// smallLists tells all lists of up to three extents of a window.
func smallLists(base int) iter.Seq[[]api.Extent] {
	return func(yield func([]api.Extent) bool) {
		for count := range 4 {
			for l := range lists(count, pieces(base)) {
				if !yield(l) {
					return
				}
			}
		}
	}
}

// goodLists tells the good lists of all sets of a window's bytes.
func goodLists(base int) [][]api.Extent {
	var out [][]api.Extent
	for set := range 1 << window {
		counts := make([]int, window)
		for i := range counts {
			counts[i] = set >> i & 1
		}
		out = append(out, runs(counts, base, some))
	}
	return out
}

// chance tells numbers that hang on a seed alone.
type chance uint32

func (c *chance) below(n int) int {
	*c = *c*1664525 + 1013904223
	return int(uint32(*c)>>8) % n
}

// scattered tells so many extents of up to most bytes that lie anywhere below a size.
func scattered(seed, count, size, most int) []api.Extent {
	c := chance(seed)
	l := make([]api.Extent, count)
	for i := range l {
		at := c.below(size + 1)
		l[i] = api.Extent{At: at, Size: c.below(min(most, size-at) + 1)}
	}
	return l
}

// shown tells the first extents of a list, so that a failing test of a long one can be read.
func shown(l []api.Extent) []api.Extent { return l[:min(len(l), 6)] }

func wantList(t *testing.T, what string, given, got []api.Extent, e api.Errno, want []api.Extent, errno api.Errno) {
	t.Helper()
	if e != errno || !slices.Equal(got, want) {
		t.Fatalf("%s of %d: %v: %d: %v, error %d; want %d: %v, error %d", what, len(given), shown(given), len(got), shown(got), int(e), len(want), shown(want), int(errno))
	}
}

func wantGood(t *testing.T, l []api.Extent, size int, want bool) {
	t.Helper()
	if got := extent.Good(l, size); got != want {
		t.Fatalf("Good of %d: %v, %d: %t", len(l), shown(l), size, got)
	}
}

func wantNormal(t *testing.T, l, want []api.Extent, errno api.Errno) {
	t.Helper()
	got, e := extent.Normal(l)
	wantList(t, "Normal", l, got, e, want, errno)
}

func wantRest(t *testing.T, l []api.Extent, size int, want []api.Extent, errno api.Errno) {
	t.Helper()
	got, e := extent.Rest(l, size)
	wantList(t, "Rest", l, got, e, want, errno)
}

// P5.1: a list is good if it is the one that tells its bytes in order, in as few extents as can be.
func TestGoodOfSmallLists(t *testing.T) {
	for _, base := range windows {
		good := 0
		for l := range smallLists(base) {
			is := slices.Equal(l, runs(having(l, base, base+window), base, some))
			end := 0
			for _, x := range l {
				end = max(end, x.At+x.Size)
			}
			for size := base - 1; size <= base+window+1; size++ {
				wantGood(t, l, size, is && 0 <= size && size <= api.MaxFile && end <= size)
			}
			if is {
				good++
			}
		}
		if good < 100 {
			t.Errorf("only %d good ones", good)
		}
	}
}

// P5.1
func TestGoodOfAllSetsOfBytes(t *testing.T) {
	for _, base := range windows {
		for _, l := range goodLists(base) {
			wantGood(t, l, base+window, true)
			wantGood(t, l, api.MaxFile, true)
			if len(l) > 1 {
				slices.Reverse(l)
				wantGood(t, l, api.MaxFile, false)
			}
		}
	}
}

// P5.1: what is written out in the chapter's words.
func TestGoodOfPairs(t *testing.T) {
	for _, x := range []struct {
		l    []api.Extent
		size int
		want bool
	}{
		{list(0, 2, 2, 3), 9, false},         // they touch
		{list(0, 2, 3, 3), 6, true},          // the last one ends at the size
		{list(0, 2, 3, 3), 5, false},         // beyond it
		{list(0, 2, 1, 3), 9, false},         // they meet
		{list(0, 9, 2, 3), 9, false},         // one lies within the other
		{list(2, 3, 2, 3), 9, false},         // one stands twice
		{list(4, 2, 0, 2), 9, false},         // out of order
		{list(0, 2, 4, 0), 9, false},         // without a byte
		{list(0, 0), 9, false},               // without a byte, alone
		{list(0, 0), 0, false},               // likewise, at the size
		{list(-1, 1), 9, false},              // ahead of the file
		{list(-1, 3), 9, false},              // partly ahead of it
		{list(-5, 2, 0, 2), 9, false},        // one that may not be ahead of one that may
		{list(0, 2, 9, -3), 9, false},        // a Size below 0
		{list(0, 2, 4, 9, 14, 1), 12, false}, // one ahead of the last one ends beyond the size, and so does the last one
		{list(0, api.MaxFile), api.MaxFile, true},
		{list(0, api.MaxFile), api.MaxFile - 1, false},
		{list(api.MaxFile-1, 1), api.MaxFile, true},
		{list(api.MaxFile-1, 2), api.MaxFile, false},
	} {
		wantGood(t, x.l, x.size, x.want)
	}
}

// P5.1: no extent is good in every size that may be, and in no other.
func TestGoodOfNoExtent(t *testing.T) {
	for _, l := range [][]api.Extent{nil, {}} {
		for _, size := range []int{0, 1, 64, api.MaxFile - 1, api.MaxFile} {
			wantGood(t, l, size, true)
		}
		for _, size := range wrongSizes {
			wantGood(t, l, size, false)
		}
	}
}

// P5.1: one extent, at the limits of sizes and of Go's numbers.
func TestGoodOfOneExtent(t *testing.T) {
	for _, x := range edgeOnes {
		wantGood(t, list(x.At, x.Size), api.MaxFile, x.Size > 0)
		if x.Size > 0 {
			wantGood(t, list(x.At, x.Size), x.At+x.Size, true)
			wantGood(t, list(x.At, x.Size), x.At+x.Size-1, false)
		}
		for _, size := range wrongSizes {
			wantGood(t, list(x.At, x.Size), size, false)
		}
	}
	for _, x := range wrongOnes {
		for _, size := range append([]int{0, 1, 64, api.MaxFile - 1, api.MaxFile}, wrongSizes...) {
			wantGood(t, list(x.At, x.Size), size, false)
			wantGood(t, list(0, 1, x.At, x.Size), size, false)
			wantGood(t, list(x.At, x.Size, 60, 4), size, false)
		}
	}
}

// P5.1: as many extents as there may be, and one more.
func TestGoodOfManyExtents(t *testing.T) {
	for count, want := range map[int]bool{api.MaxItems - 1: true, api.MaxItems: true, api.MaxItems + 1: false, api.MaxItems + 2: false, 2 * api.MaxItems: false} {
		wantGood(t, comb(count, 0, 2, 1), api.MaxFile, want)
		wantGood(t, comb(count, 0, 2, 1), 2*count, want)
	}
	wantGood(t, comb(api.MaxItems, 1, 64, 63), api.MaxFile, true)
	wantGood(t, comb(api.MaxItems, 1, 64, 63), api.MaxFile-1, false)
	wantGood(t, comb(api.MaxItems, 0, 64, 64), api.MaxFile, false)
	for _, place := range []int{0, 1, api.MaxItems / 2, api.MaxItems - 2, api.MaxItems - 1} {
		l := comb(api.MaxItems, 1, 4, 2)
		l[place].Size = 0
		wantGood(t, l, api.MaxFile, false)
		if place < api.MaxItems-1 {
			l[place].Size = 4
			wantGood(t, l, api.MaxFile, false)
		}
	}
}

// P5.2
func TestNormalOfSmallLists(t *testing.T) {
	for _, base := range windows {
		for l := range smallLists(base) {
			wantNormal(t, l, runs(having(l, base, base+window), base, some), api.OK)
		}
	}
}

// P5.2: extents in any order and of any length; what comes out is good, and Normal of it is the same.
func TestNormalOfScatteredLists(t *testing.T) {
	for seed := range 3000 {
		l := scattered(seed, seed%60, 400, 1+seed%25)
		want := runs(having(l, 0, 400), 0, some)
		wantNormal(t, l, want, api.OK)
		wantGood(t, want, api.MaxFile, true)
		wantNormal(t, want, want, api.OK)
		slices.Reverse(l)
		wantNormal(t, l, want, api.OK)
	}
}

// P5.2: those of the chapter, and others that are written out.
func TestNormalOfExamples(t *testing.T) {
	wantNormal(t, list(4, 2, 0, 4, 9, 0), list(0, 6), api.OK)
	wantNormal(t, nil, nil, api.OK)
	wantNormal(t, []api.Extent{}, nil, api.OK)
	wantNormal(t, list(0, 0), nil, api.OK)
	wantNormal(t, list(7, 0, 3, 0, api.MaxFile, 0), nil, api.OK)
	wantNormal(t, list(5, 2, 7, 0), list(5, 2), api.OK)
	wantNormal(t, list(5, 2, 7, 0, 8, 1), list(5, 2, 8, 1), api.OK)
	wantNormal(t, list(0, 100, 10, 5, 30, 1, 99, 1), list(0, 100), api.OK)
	wantNormal(t, list(3, 4, 3, 4, 3, 4), list(3, 4), api.OK)
	wantNormal(t, list(3, 4, 3, 9, 3, 1), list(3, 9), api.OK)
	wantNormal(t, list(0, api.MaxFile, api.MaxFile-1, 1, 0, 1), list(0, api.MaxFile), api.OK)
	wantNormal(t, list(api.MaxFile-1, 1, 0, 1), list(0, 1, api.MaxFile-1, 1), api.OK)
}

// P5.2: one extent that may be, and one that may not, wherever it stands.
func TestNormalAtTheEdges(t *testing.T) {
	for _, x := range edgeOnes {
		want := list(x.At, x.Size)
		if x.Size == 0 {
			want = nil
		}
		if !may(x) {
			t.Fatal("an edge may not be", x)
		}
		wantNormal(t, list(x.At, x.Size), want, api.OK)
	}
	for _, x := range wrongOnes {
		if may(x) {
			t.Fatal("a wrong one may be", x)
		}
		for _, l := range [][]api.Extent{{x}, {x, x}, with(list(0, 5), x), with([]api.Extent{x}, list(0, 5, 9, 0)...), with(list(0, api.MaxFile), x)} {
			wantNormal(t, l, nil, api.ErrArg)
		}
	}
}

// P5.2: as many extents as there may be, and one more, whatever they are: ErrBig comes ahead of ErrArg.
func TestNormalOfManyExtents(t *testing.T) {
	shuffled := comb(api.MaxItems, 1, 64, 63)
	c := chance(5)
	for i := range shuffled {
		k := c.below(i + 1)
		shuffled[i], shuffled[k] = shuffled[k], shuffled[i]
	}
	wantNormal(t, shuffled, comb(api.MaxItems, 1, 64, 63), api.OK)
	wantNormal(t, comb(api.MaxItems, 0, 64, 64), list(0, api.MaxFile), api.OK)
	wantNormal(t, comb(api.MaxItems, 9, 0, 3), list(9, 3), api.OK)
	wantNormal(t, comb(api.MaxItems, 9, 1, 0), nil, api.OK)
	wantNormal(t, comb(api.MaxItems+1, 0, 2, 1), nil, api.ErrBig)
	wantNormal(t, comb(api.MaxItems+1, 9, 0, 3), nil, api.ErrBig)
	wantNormal(t, comb(api.MaxItems+1, 9, 1, 0), nil, api.ErrBig)
	for _, x := range wrongOnes {
		wantNormal(t, with(comb(api.MaxItems-1, 0, 2, 1), x), nil, api.ErrArg)
		wantNormal(t, with(comb(api.MaxItems, 0, 2, 1), x), nil, api.ErrBig)
		wantNormal(t, with([]api.Extent{x}, comb(api.MaxItems, 0, 2, 1)...), nil, api.ErrBig)
	}
}

// P5.2
func TestRestOfSmallLists(t *testing.T) {
	for l := range smallLists(0) {
		end := 0
		for _, x := range l {
			if x.Size > 0 {
				end = max(end, x.At+x.Size)
			}
		}
		for size := range window + 3 {
			if size < end {
				wantRest(t, l, size, nil, api.ErrArg)
				continue
			}
			wantRest(t, l, size, runs(having(l, 0, window+3)[:size], 0, none), api.OK)
		}
	}
}

// P5.2: in the last bytes that a file may have.
func TestRestAtTheEndOfAFile(t *testing.T) {
	base := api.MaxFile - window
	for _, l := range goodLists(base) {
		counts := having(l, base, api.MaxFile)
		// The byte ahead of the window is there to be joined with.
		want := runs(append([]int{0}, counts...), base-1, none)
		want[0] = api.Extent{Size: want[0].At + want[0].Size}
		wantRest(t, l, api.MaxFile, want, api.OK)
		if counts[window-1] > 0 {
			wantRest(t, l, api.MaxFile-1, nil, api.ErrArg)
		}
	}
}

// P5.2: those of the chapter, and others that are written out.
func TestRestOfExamples(t *testing.T) {
	wantRest(t, list(2, 3), 10, list(0, 2, 5, 5), api.OK)
	wantRest(t, list(2, 9), 10, nil, api.ErrArg)
	wantRest(t, list(2, 8), 10, list(0, 2), api.OK)
	wantRest(t, nil, 0, nil, api.OK)
	wantRest(t, nil, 1, list(0, 1), api.OK)
	wantRest(t, nil, api.MaxFile, list(0, api.MaxFile), api.OK)
	wantRest(t, list(0, api.MaxFile), api.MaxFile, nil, api.OK)
	wantRest(t, list(0, 1), 0, nil, api.ErrArg)
	wantRest(t, list(0, 1), 1, nil, api.OK)
	wantRest(t, list(5, 5, 0, 5), 10, nil, api.OK)
}

// P5.2: an extent without a byte may end beyond the size, if it may be at all.
func TestRestPassesExtentsWithoutAByte(t *testing.T) {
	wantRest(t, list(9, 0, api.MaxFile, 0, 2, 1), 4, list(0, 2, 3, 1), api.OK)
	wantRest(t, list(1, 0), 0, nil, api.OK)
	wantRest(t, list(2, 0, 5, 0), 8, list(0, 8), api.OK)
	wantRest(t, list(api.MaxFile+1, 0), 4, nil, api.ErrArg)
}

// P5.2: ErrArg of the size, then Normal's errors, then ErrArg of what ends beyond the size, then ErrBig.
func TestRestRefusesInOrder(t *testing.T) {
	many, tooMany := comb(api.MaxItems, 1, 2, 1), comb(api.MaxItems+1, 1, 2, 1)
	for _, size := range wrongSizes {
		for _, l := range [][]api.Extent{nil, list(2, 3), list(-1, 3), many, tooMany} {
			wantRest(t, l, size, nil, api.ErrArg)
		}
	}
	for _, size := range []int{0, 10, api.MaxFile} {
		wantRest(t, tooMany, size, nil, api.ErrBig)
		wantRest(t, comb(api.MaxItems+1, 0, 0, 0), size, nil, api.ErrBig)
		for _, x := range wrongOnes {
			wantRest(t, []api.Extent{x}, size, nil, api.ErrArg)
			wantRest(t, with(list(0, 1), x), size, nil, api.ErrArg)
			wantRest(t, with(many, x), size, nil, api.ErrBig)
		}
	}
	wantRest(t, many, 2*api.MaxItems-1, nil, api.ErrArg)
	wantRest(t, many, 2*api.MaxItems+1, nil, api.ErrBig)
}

// P5.2: as many extents as there may be, and one more.
func TestRestOfManyExtents(t *testing.T) {
	end := 2 * api.MaxItems
	wantRest(t, comb(api.MaxItems, 1, 2, 1), end, comb(api.MaxItems, 0, 2, 1), api.OK)
	wantRest(t, comb(api.MaxItems, 0, 2, 1), end, comb(api.MaxItems, 1, 2, 1), api.OK)
	wantRest(t, comb(api.MaxItems, 0, 2, 1), end-1, comb(api.MaxItems-1, 1, 2, 1), api.OK)
	wantRest(t, comb(api.MaxItems, 1, 2, 1), end+1, nil, api.ErrBig)
	wantRest(t, comb(api.MaxItems, 1, 2, 1), api.MaxFile, nil, api.ErrBig)
	wantRest(t, comb(api.MaxItems-1, 1, 2, 1), end, with(comb(api.MaxItems-1, 0, 2, 1), api.Extent{At: end - 2, Size: 2}), api.OK)
	wantRest(t, comb(api.MaxItems, 1, 64, 62), api.MaxFile, nil, api.ErrBig)
	wantRest(t, comb(api.MaxItems, 1, 64, 63), api.MaxFile, comb(api.MaxItems, 0, 64, 1), api.OK)
}

// wantCover asks that a list, where Normal has it, and its Rest have each byte below a size, each once.
func wantCover(t *testing.T, l []api.Extent, size int) {
	t.Helper()
	used, e := extent.Normal(l)
	free, f := extent.Rest(l, size)
	if e != api.OK || f != api.OK {
		t.Fatalf("%v, %d: errors %d, %d", shown(l), size, int(e), int(f))
	}
	wantGood(t, used, size, true)
	wantGood(t, free, size, true)
	for at, count := range having(with(used, free...), 0, size) {
		if count != 1 {
			t.Fatalf("%v, %d: byte %d stands %d times", shown(l), size, at, count)
		}
	}
	both, _ := extent.Normal(with(used, free...))
	if size > 0 && len(with(used, free...)) <= api.MaxItems && !slices.Equal(both, list(0, size)) {
		t.Fatalf("%v, %d: both are %v", shown(l), size, shown(both))
	}
	if again, e := extent.Rest(free, size); e != api.OK || !slices.Equal(again, used) {
		t.Fatalf("%v, %d: Rest of the Rest is %v, error %d", shown(l), size, shown(again), int(e))
	}
}

// P5.6
func TestListAndRestCover(t *testing.T) {
	for l := range smallLists(0) {
		wantCover(t, l, window)
	}
	for seed := range 2000 {
		wantCover(t, scattered(seed, seed%50, 300, 1+seed%20), 300)
	}
	wantCover(t, nil, 0)
	wantCover(t, nil, api.MaxFile)
	wantCover(t, list(0, api.MaxFile), api.MaxFile)
	wantCover(t, comb(api.MaxItems, 1, 64, 63), api.MaxFile)
	wantCover(t, comb(api.MaxItems, 0, 64, 1), api.MaxFile)
	wantCover(t, scattered(7, api.MaxItems, api.MaxFile, 100), api.MaxFile)
}
