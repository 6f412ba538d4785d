package grid_test

import (
	"bytes"
	"slices"
	"testing"

	"slabvault/api"
)

// P13.3: the document's examples, and others that can be read.
func TestCutAndPasteTexts(t *testing.T) {
	for _, x := range []struct {
		data                string
		size                int
		dims, shape, coords []int
		fill, cut           string
		chunk, pasted       string
	}{
		{"abcde", 1, ints(5), ints(2), ints(2), "-", "e-", "XY", "abcdX"},
		{"abcde", 1, ints(5), ints(2), ints(1), "-", "cd", "XY", "abXYe"},
		{"abcde", 1, ints(5), ints(2), ints(3), "-", "--", "XY", "abcde"},
		{"abcde", 1, ints(5), ints(2), ints(9), "-", "--", "XY", "abcde"},
		{"abcde", 1, ints(5), ints(2), ints(1 << 62), "-", "--", "XY", "abcde"},
		{"abcde", 1, ints(5), ints(2), ints(most), "-", "--", "XY", "abcde"},
		{"abcde", 1, ints(5), ints(7), ints(0), "-", "abcde--", "TUVWXYZ", "TUVWX"},
		{"abcde", 1, ints(5), ints(5), ints(0), "-", "abcde", "VWXYZ", "VWXYZ"},
		{"abcd", 1, ints(4), ints(2), ints(2), "-", "--", "XY", "abcd"},
		{"abcdef", 1, ints(2, 3), ints(2, 2), ints(0, 1), "-", "c-f-", "WXYZ", "abWdeY"},
		{"abcdef", 1, ints(2, 3), ints(2, 2), ints(0, 0), "-", "abde", "WXYZ", "WXcYZf"},
		{"abcdef", 1, ints(3, 2), ints(2, 2), ints(1, 0), "-", "ef--", "WXYZ", "abcdWX"},
		{"abcdef", 1, ints(2, 3), ints(2, 2), ints(1, 1), "-", "----", "WXYZ", "abcdef"},
		{"abcdef", 1, ints(2, 3), ints(2, 2), ints(0, most), "-", "----", "WXYZ", "abcdef"},
		{"abcdef", 1, ints(2, 3), ints(1, 1), ints(1, 1), "-", "e", "X", "abcdXf"},
		{"abcdef", 2, ints(3), ints(2), ints(1), "-+", "ef-+", "WXYZ", "abcdWX"},
		{"abcdefgh", 2, ints(2, 2), ints(1, 3), ints(1, 0), "-+", "efgh-+", "UVWXYZ", "abcdUVWX"},
		{"abcdefgh", 1, ints(2, 2, 2), ints(1, 2, 1), ints(1, 0, 1), "-", "fh", "XY", "abcdeXgY"},
		{"abcdefgh", 1, ints(2, 2, 2, 1), ints(2, 1, 1, 2), ints(0, 1, 0, 0), "-", "c-g-", "WXYZ", "abWdefYh"},
		{"a", 1, nil, nil, nil, "-", "a", "X", "X"},
		{"abc", 3, ints(), ints(), ints(), "-+*", "abc", "XYZ", "XYZ"},
		{"", 1, ints(0), ints(2), ints(0), "-", "--", "XY", ""},
		{"", 2, ints(0, 3), ints(1, 2), ints(0, 1), "-+", "-+-+", "WXYZ", ""},
		{"", 1, ints(3, 0), ints(1, 1), ints(0, 0), "-", "-", "X", ""},
	} {
		p := piece{[]byte(x.data), x.size, x.dims, x.shape, x.coords, []byte(x.fill), []byte(x.chunk)}
		b, e := p.cut()
		wantBytes(t, "Cut of "+p.String(), b, e, []byte(x.cut), api.OK)
		b, e = p.paste()
		wantBytes(t, "Paste of "+p.String(), b, e, []byte(x.pasted), api.OK)
	}
}

// wantModel holds Cut and Paste against the second reading of the chapter.
func wantModel(t *testing.T, p piece) (api.Errno, api.Errno) {
	t.Helper()
	want, fault := p.modelCut()
	b, e := p.cut()
	wantBytes(t, "Cut of "+p.String(), b, e, want, fault)
	want, wrong := p.modelPaste()
	b, e = p.paste()
	wantBytes(t, "Paste of "+p.String(), b, e, want, wrong)
	return fault, wrong
}

// P13.3: all chunks of small extents of all ranks, and those around them, by all small shapes.
func TestCutAndPasteSmallExtents(t *testing.T) {
	var walk func(dims, shape, coords []int)
	walk = func(dims, shape, coords []int) {
		wantModel(t, newPiece(1+len(dims)%3, dims, shape, coords))
		if len(dims) == 3 {
			return
		}
		// Of three dimensions there would be too many: those of the last one are fewer.
		for n := range 4 - len(dims)/2 {
			for _, m := range []int{2, 3, 1, 5}[:4-len(dims)] {
				for c := range 4 - len(dims) {
					walk(append(ints(dims...), n), append(ints(shape...), m), append(ints(coords...), c))
				}
			}
		}
	}
	walk(nil, nil, nil)
	for _, coords := range tuples(same(3, 4)) {
		wantModel(t, newPiece(3, ints(3, 4, 2, 5), ints(2, 2, 2, 2), coords))
		wantModel(t, newPiece(2, ints(5, 2, 4, 3), ints(2, 1, 3, 2), coords))
	}
}

// P13.3: sizes 1 and MaxElement, and those outside.
func TestCutAndPasteSizes(t *testing.T) {
	for _, size := range []int{1, 2, api.MaxElement - 1, api.MaxElement} {
		for _, coords := range tuples(ints(3, 3)) {
			if fault, wrong := wantModel(t, newPiece(size, ints(3, 5), ints(2, 3), coords)); fault != api.OK || wrong != api.OK {
				t.Errorf("size %d: %d, %d", size, fault, wrong)
			}
		}
		wantModel(t, newPiece(size, nil, nil, nil))
	}
	for _, size := range []int{0, -1, least, api.MaxElement + 1, most} {
		for _, lengths := range []int{0, 1, api.MaxElement + 1} {
			p := newPiece(lengths, ints(3), ints(2), ints(0))
			p.size = size
			wantBoth(t, p, api.ErrArg)
			p.data, p.fill, p.chunk = nil, nil, nil
			wantBoth(t, p, api.ErrArg)
		}
	}
}

// P13.3: extents and shapes of just MaxData bytes may be; of one element more they are ErrBig.
func TestCutAndPasteAtMaxData(t *testing.T) {
	for _, x := range []struct {
		size        int
		dims, shape []int
	}{
		{1, ints(api.MaxData), ints(1)}, {1, ints(1), ints(api.MaxData)}, {1, ints(api.MaxData), ints(api.MaxData)}, {256, ints(256), ints(1)}, {256, ints(1), ints(256)}, {256, ints(16, 16), ints(4, 64)},
		{2, ints(1 << 15), ints(1 << 15)}, {1, ints(256, 256), ints(16, 16)}, {1, ints(16, 16, 16, 16), ints(3, 3, 3, 3)}, {3, ints(21845), ints(21845)}, {255, ints(257), ints(257)}, {1, ints(1, 1), ints(256, 256)}, {1, ints(65536, 1), ints(1, 65536)},
	} {
		p := newPiece(x.size, x.dims, x.shape, same(0, len(x.dims)))
		if fault, wrong := wantModel(t, p); fault != api.OK || wrong != api.OK {
			t.Errorf("%s: %d, %d", p, fault, wrong)
		}
	}
	for _, x := range []struct {
		size        int
		dims, shape []int
	}{
		{1, ints(api.MaxData + 1), ints(1)}, {1, ints(1), ints(api.MaxData + 1)}, {256, ints(257), ints(1)}, {256, ints(1), ints(257)}, {2, ints(1<<15 + 1), ints(1)}, {2, ints(1), ints(1<<15 + 1)},
		{3, ints(21846), ints(1)}, {3, ints(1), ints(21846)}, {1, ints(17, 3856), ints(1, 1)}, {1, ints(1, 1), ints(17, 3856)}, {1, ints(0), ints(api.MaxData + 1)}, {1, ints(api.MaxDim), ints(api.MaxDim)}, {256, ints(api.MaxDim), ints(1)}, {256, ints(1), ints(api.MaxDim)},
	} {
		p := newPiece(x.size, x.dims, x.shape, same(0, len(x.dims)))
		wantBoth(t, p, api.ErrBig)
		// Ahead of what is wrong with the bytes and the coordinates.
		p.data, p.fill, p.chunk, p.coords = nil, nil, nil, nil
		wantBoth(t, p, api.ErrBig)
		p.coords = ints(-1, -1, -1)
		wantBoth(t, p, api.ErrBig)
		// Behind what is wrong with the size.
		p.size = 0
		wantBoth(t, p, api.ErrArg)
		p.size = api.MaxElement + 1
		wantBoth(t, p, api.ErrArg)
	}
}

// P13.3: extents without an element, however great the other dimensions are: a chunk is all fill, and pasting it changes nothing.
func TestCutAndPasteOfNothing(t *testing.T) {
	for rank := 1; rank <= api.MaxRank; rank++ {
		for at := range rank {
			dims := with(same(api.MaxDim, rank), at, 0)
			for _, c := range []int{0, 1, api.MaxDim - 1, api.MaxDim, most} {
				p := newPiece(2, dims, same(3, rank), same(c, rank))
				b, e := p.cut()
				wantBytes(t, "Cut of "+p.String(), b, e, bytes.Repeat(p.fill, product(p.shape)), api.OK)
				b, e = p.paste()
				wantBytes(t, "Paste of "+p.String(), b, e, nil, api.OK)
			}
		}
	}
}

// P13.3: the error, if dims and shape do not fit, ahead of all that is wrong besides.
func TestCutAndPasteOfNoFit(t *testing.T) {
	for _, x := range misfits() {
		p := piece{dims: x.dims, shape: x.shape, coords: same(0, len(x.dims)), size: 1, data: []byte("abcdef"), fill: []byte("-"), chunk: []byte("WXYZ")}
		wantBoth(t, p, x.fault)
		for _, size := range []int{0, -1, api.MaxElement, api.MaxElement + 1, most} {
			p.size = size
			wantBoth(t, p, x.fault)
			q := p
			q.data, q.fill, q.chunk, q.coords = nil, nil, nil, ints(-1)
			wantBoth(t, q, x.fault)
		}
	}
}

// P13.3: ErrArg of data, fill and chunk that are too short or too long by one byte, by an element, or not there at all.
func TestCutAndPasteOfWrongLengths(t *testing.T) {
	for _, p := range []piece{newPiece(3, ints(2, 3), ints(2, 2), ints(0, 1)), newPiece(2, nil, nil, nil), newPiece(1, ints(5), ints(2), ints(9)), newPiece(4, ints(0, 2), ints(1, 1), ints(0, 0))} {
		wantModel(t, p)
		for _, n := range []int{len(p.data) - p.size, len(p.data) - 1, len(p.data) + 1, len(p.data) + p.size, 0} {
			if q := p; n >= 0 && n != len(p.data) {
				q.data = make([]byte, n)
				wantBoth(t, q, api.ErrArg)
			}
		}
		for _, n := range []int{0, p.size - 1, p.size + 1, 2 * p.size} {
			q := p
			q.fill = make([]byte, n)
			b, e := q.cut()
			wantBytes(t, "Cut of "+q.String(), b, e, nil, api.ErrArg)
		}
		for _, n := range []int{0, len(p.chunk) - p.size, len(p.chunk) - 1, len(p.chunk) + 1, len(p.chunk) + p.size} {
			if q := p; n != len(p.chunk) {
				q.chunk = make([]byte, n)
				b, e := q.paste()
				wantBytes(t, "Paste of "+q.String(), b, e, nil, api.ErrArg)
			}
		}
		q := p
		q.fill, q.chunk = nil, nil
		wantBoth(t, q, api.ErrArg)
	}
}

// P13.3: ErrArg of coordinates of another rank, or with a number below 0.
func TestCutAndPasteOfWrongCoords(t *testing.T) {
	for rank := 0; rank <= api.MaxRank; rank++ {
		for _, coords := range wrongCoords(rank) {
			for _, dims := range [][]int{same(3, rank), same(0, rank)} {
				wantBoth(t, newPiece(2, dims, same(2, rank), coords), api.ErrArg)
			}
		}
	}
}

// P13.3: coordinates so great that their products pass an int lie beyond, along each dimension.
func TestCutAndPasteFarBeyond(t *testing.T) {
	for _, n := range []int{1 << 31, 1 << 32, 1<<44 - 1, 1 << 44, 1<<44 + 1, 1 << 61, 1 << 62, 1<<62 + 1, 6148914691236517206, most - 1, most} {
		for rank := 1; rank <= api.MaxRank; rank++ {
			for at := range rank {
				for _, m := range []int{1, 2, 3, 4, 16} {
					p := newPiece(1, same(3, rank), with(same(2, rank), at, m), with(same(0, rank), at, n))
					b, e := p.cut()
					wantBytes(t, "Cut of "+p.String(), b, e, bytes.Repeat(p.fill, product(p.shape)), api.OK)
					b, e = p.paste()
					wantBytes(t, "Paste of "+p.String(), b, e, slices.Clone(p.data), api.OK)
				}
			}
		}
	}
}
