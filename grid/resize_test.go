package grid_test

import (
	"bytes"
	"testing"

	"slabvault/api"
)

// P13.4: the document's example, and others that can be read: growing, shrinking, and both along two dimensions.
func TestResizeTexts(t *testing.T) {
	for _, x := range []struct {
		data     string
		size     int
		from, to []int
		fill     string
		want     string
	}{
		{"abcd", 1, ints(2, 2), ints(3, 1), "-", "ac-"}, {"abcd", 1, ints(2, 2), ints(1, 3), "-", "ab-"}, {"abcd", 1, ints(2, 2), ints(2, 2), "-", "abcd"}, {"abcd", 1, ints(2, 2), ints(3, 3), "-", "ab-cd----"}, {"abcd", 1, ints(2, 2), ints(1, 1), "-", "a"},
		{"abc", 1, ints(3), ints(5), "-", "abc--"}, {"abc", 1, ints(3), ints(2), "-", "ab"}, {"abc", 1, ints(3), ints(0), "-", ""}, {"", 1, ints(0), ints(3), "-", "---"}, {"", 1, ints(0), ints(0), "-", ""},
		{"abcd", 2, ints(2), ints(3), "-+", "abcd-+"}, {"abcd", 2, ints(2), ints(1), "-+", "ab"}, {"abcd", 2, ints(1, 2), ints(2, 1), "-+", "ab-+"}, {"abcd", 4, nil, nil, "-+*.", "abcd"}, {"a", 1, nil, ints(), "-", "a"}, {"a", 1, ints(), nil, "-", "a"},
		{"", 1, ints(2, 0), ints(2, 2), "-", "----"}, {"", 1, ints(0, 2), ints(1, 2), "-", "--"}, {"abcd", 1, ints(2, 2), ints(0, 5), "-", ""}, {"abcd", 1, ints(2, 2), ints(5, 0), "-", ""},
		{"abcdefgh", 1, ints(2, 2, 2), ints(1, 3, 1), "-", "ac-"}, {"abcdefgh", 1, ints(2, 2, 2), ints(3, 1, 2), "-", "abef--"}, {"abcdefgh", 1, ints(2, 1, 2, 2), ints(1, 2, 1, 3), "-", "ab----"}, {"abcdefgh", 1, ints(2, 2, 1, 2), ints(2, 1, 2, 1), "-", "a-e-"},
	} {
		wantResize(t, []byte(x.data), x.size, x.from, x.to, []byte(x.fill), []byte(x.want), api.OK)
	}
}

// P13.4: all small extents of ranks 0 to 2, and many of ranks 3 and 4, to all others, against the second reading.
func TestResizeSmallExtents(t *testing.T) {
	hold := func(size int, from, to []int) {
		data, fill := numbered(product(from)*size, 0), numbered(size, 100)
		want, fault := modelResize(data, size, from, to, fill)
		wantResize(t, data, size, from, to, fill, want, fault)
	}
	hold(3, nil, nil)
	for _, from := range tuples(ints(6, 6)) {
		for _, to := range tuples(ints(6, 6)) {
			hold(1, from, to)
			hold(3, from, to)
			hold(2, from[:1], to[:1])
		}
	}
	for _, from := range tuples(same(4, 3)) {
		for _, to := range tuples(same(4, 3)) {
			hold(2, from, to)
		}
	}
	for _, from := range tuples(same(3, 4)) {
		for _, to := range tuples(same(3, 4)) {
			hold(1, from, to)
		}
	}
}

// P13.4: Elements' error of from, then of to, ahead of all else.
func TestResizeOfNoExtent(t *testing.T) {
	bad := []struct {
		dims  []int
		fault api.Errno
	}{
		{ints(-1), api.ErrArg}, {ints(least), api.ErrArg}, {ints(api.MaxDim + 1), api.ErrArg}, {ints(most), api.ErrArg}, {same(1, 5), api.ErrArg}, {same(0, 5), api.ErrArg}, {ints(0, -1), api.ErrArg}, {ints(2, api.MaxDim+1), api.ErrArg},
		{ints(api.MaxDim, 2), api.ErrBig}, {ints(17, 61681), api.ErrBig}, {same(api.MaxDim, 4), api.ErrBig},
	}
	for _, x := range bad {
		for _, size := range []int{1, 0, -1, api.MaxElement, api.MaxElement + 1} {
			for _, b := range [][]byte{nil, []byte("a"), []byte("ab")} {
				for _, good := range [][]int{nil, ints(1), ints(2, 1), ints(api.MaxDim)} {
					wantResize(t, b, size, x.dims, good, b, nil, x.fault)
					wantResize(t, b, size, good, x.dims, b, nil, x.fault)
				}
				for _, y := range bad {
					wantResize(t, b, size, x.dims, y.dims, b, nil, x.fault)
				}
			}
		}
	}
}

// P13.4: ErrArg of extents of two ranks, and of a size that is not 1 to MaxElement, ahead of ErrBig.
func TestResizeOfWrongRanksAndSizes(t *testing.T) {
	for n := 0; n <= api.MaxRank; n++ {
		for m := 0; m <= api.MaxRank; m++ {
			if n != m {
				wantResize(t, []byte("a"), 1, same(1, n), same(1, m), []byte("-"), nil, api.ErrArg)
			}
		}
		for _, size := range []int{0, -1, least, api.MaxElement + 1, most} {
			wantResize(t, []byte("a"), size, same(1, n), same(1, n), []byte("-"), nil, api.ErrArg)
			wantResize(t, nil, size, same(1, n), same(1, n), nil, nil, api.ErrArg)
			wantResize(t, make([]byte, 257), size, same(1, n), same(1, n), make([]byte, 257), nil, api.ErrArg)
		}
	}
	wantResize(t, nil, 1, ints(api.MaxDim), ints(1, 1), nil, nil, api.ErrArg)
	wantResize(t, nil, 1, ints(1, 1), ints(api.MaxDim), nil, nil, api.ErrArg)
	wantResize(t, nil, 0, ints(api.MaxDim), ints(1), nil, nil, api.ErrArg)
	wantResize(t, nil, api.MaxElement+1, ints(1), ints(api.MaxDim), nil, nil, api.ErrArg)
}

// P13.4: either extent may have just MaxData bytes; with one element more it is ErrBig, ahead of what is wrong with the bytes.
func TestResizeAtMaxData(t *testing.T) {
	for _, x := range []struct {
		size, n int
		great   []int
	}{
		{1, 65536, ints(65536)}, {256, 256, ints(256)}, {2, 32768, ints(128, 256)}, {1, 65536, ints(16, 16, 16, 16)}, {255, 257, ints(257)}, {3, 21845, ints(5, 17, 257)},
	} {
		small := same(1, len(x.great))
		data, fill := numbered(x.n*x.size, 0), numbered(x.size, 100)
		wantResize(t, data, x.size, x.great, x.great, fill, data, api.OK)
		wantResize(t, data, x.size, x.great, small, fill, data[:x.size], api.OK)
		wantResize(t, data[:x.size], x.size, small, x.great, fill, append(bytes.Clone(data[:x.size]), bytes.Repeat(fill, x.n-1)...), api.OK)
	}
	for _, x := range []struct {
		size  int
		great []int
	}{
		{1, ints(65537)}, {256, ints(257)}, {2, ints(32769)}, {3, ints(21846)}, {1, ints(1, 65537, 1)}, {255, ints(258)}, {1, ints(api.MaxDim)}, {256, ints(api.MaxDim)}, {1, same(17, 4)},
	} {
		small := same(1, len(x.great))
		wantResize(t, make([]byte, x.size), x.size, small, x.great, make([]byte, x.size), nil, api.ErrBig)
		wantResize(t, make([]byte, product(x.great)*x.size), x.size, x.great, small, make([]byte, x.size), nil, api.ErrBig)
		wantResize(t, nil, x.size, small, x.great, nil, nil, api.ErrBig)
		wantResize(t, nil, x.size, x.great, small, nil, nil, api.ErrBig)
		wantResize(t, nil, x.size, x.great, x.great, nil, nil, api.ErrBig)
	}
}

// P13.4: ErrArg of data and fill that are too short or too long by one byte, or not there.
func TestResizeOfWrongLengths(t *testing.T) {
	for _, x := range []struct {
		size     int
		from, to []int
	}{
		{1, ints(2, 3), ints(3, 2)}, {3, ints(4), ints(2)}, {2, nil, nil}, {2, ints(0), ints(2)}, {2, ints(2), ints(0)}, {256, same(1, 4), same(2, 4)},
	} {
		n := product(x.from) * x.size
		for _, k := range []int{0, n - x.size, n - 1, n + 1, n + x.size, product(x.to) * x.size} {
			if k >= 0 && k != n {
				wantResize(t, make([]byte, k), x.size, x.from, x.to, make([]byte, x.size), nil, api.ErrArg)
			}
		}
		for _, k := range []int{0, x.size - 1, x.size + 1, 2 * x.size} {
			wantResize(t, make([]byte, n), x.size, x.from, x.to, make([]byte, k), nil, api.ErrArg)
		}
		wantResize(t, make([]byte, n), x.size, x.from, x.to, nil, nil, api.ErrArg)
	}
}

// P13.4: extents without an element, however great their other dimensions are.
func TestResizeOfNothing(t *testing.T) {
	for rank := 1; rank <= api.MaxRank; rank++ {
		for at := range rank {
			none := with(same(api.MaxDim, rank), at, 0)
			for other := range rank {
				wantResize(t, nil, 2, none, with(same(api.MaxDim, rank), other, 0), []byte("-+"), nil, api.OK)
			}
			wantResize(t, nil, 1, none, same(2, rank), []byte("-"), bytes.Repeat([]byte("-"), 1<<rank), api.OK)
			wantResize(t, numbered(1<<rank, 0), 1, same(2, rank), none, []byte("-"), nil, api.OK)
		}
	}
}
