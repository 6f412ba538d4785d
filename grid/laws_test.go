package grid_test

import (
	"bytes"
	"slices"
	"testing"

	"slabvault/api"
	"slabvault/grid"
)

// someGrids tells thrown extents and shapes of all ranks; each extent is small enough to be gone through.
func someGrids(seed dice, times int) []piece {
	d := seed
	var l []piece
	for i := range times {
		p := piece{size: 1 + d.below(5)}
		for range i % (api.MaxRank + 1) {
			p.dims, p.shape = append(p.dims, d.oneOf(0, 1, 2, 3, 4, 5, 6, 7)), append(p.shape, d.oneOf(1, 2, 3, 4, 5, 8))
		}
		p.data, p.fill, p.chunk = d.bytes(product(p.dims)*p.size), d.bytes(p.size), d.bytes(product(p.shape)*p.size)
		l = append(l, p)
	}
	return l
}

// around tells the coordinates of all chunks that have a tuple of the extent, and of those that come next along each dimension.
func (p piece) around() [][]int {
	counts := make([]int, len(p.dims))
	for d, n := range p.dims {
		counts[d] = (n+p.shape[d]-1)/p.shape[d] + 1
	}
	return tuples(counts)
}

// holds tells whether a tuple lies in a part of an extent.
func holds(start, size, tuple []int) bool {
	for d, n := range tuple {
		if n < start[d] || n-start[d] >= size[d] {
			return false
		}
	}
	return true
}

// P13.5: each tuple lies in one clip alone, that of the chunk which Of tells, as far behind its start as Of says is left.
func TestEachTupleLiesInOneChunk(t *testing.T) {
	for _, p := range someGrids(1351, 400) {
		lies := map[int]int{}
		for _, coords := range p.around() {
			start, size, e := grid.Clip(p.dims, p.shape, coords)
			if e != api.OK {
				t.Fatalf("Clip(%v, %v, %v) answers %d", p.dims, p.shape, coords, e)
			}
			for at, tuple := range tuples(p.dims) {
				own, inner, e := grid.Of(tuple, p.shape)
				if is := holds(start, size, tuple); e != api.OK || is != slices.Equal(own, coords) {
					t.Fatalf("in %v by %v: %v in the clip of %v: %v; Of answers %v, %d", p.dims, p.shape, tuple, coords, is, own, e)
				} else if !is {
					continue
				}
				lies[at]++
				for d := range tuple {
					if start[d]+inner[d] != tuple[d] || inner[d] >= p.shape[d] {
						t.Fatalf("in %v by %v: %v is not %v behind %v", p.dims, p.shape, tuple, inner, start)
					}
				}
			}
		}
		for at := range product(p.dims) {
			if lies[at] != 1 {
				t.Fatalf("in %v by %v: place %d lies in %d chunks", p.dims, p.shape, at, lies[at])
			}
		}
	}
}

// P13.5: the sizes of all clips make the extent, and as many of them have a tuple as Chunks tells.
func TestClipsMakeTheExtent(t *testing.T) {
	grids := someGrids(1352, 1000)
	for _, shape := range []int{1, 7, 1000, 65536, api.MaxDim - 1, api.MaxDim} {
		grids = append(grids, piece{dims: ints(api.MaxDim), shape: ints(shape)}, piece{dims: ints(api.MaxDim / 3), shape: ints(shape)})
	}
	for _, p := range grids {
		sum, some := 0, 0
		for _, coords := range p.around() {
			_, size, e := grid.Clip(p.dims, p.shape, coords)
			if n := product(size); e == api.OK && n > 0 {
				sum, some = sum+n, some+1
			}
		}
		if n, e := grid.Chunks(p.dims, p.shape); sum != product(p.dims) || some != n || e != api.OK {
			t.Errorf("in %v by %v: the clips have %d elements, %d of them one; Chunks answers %d, %d", p.dims, p.shape, sum, some, n, e)
		}
	}
}

// P13.6: what was cut and is pasted changes nothing.
func TestCutThenPaste(t *testing.T) {
	for _, p := range someGrids(1361, 1000) {
		for _, p.coords = range p.around() {
			var e api.Errno
			if p.chunk, e = p.cut(); e != api.OK {
				t.Fatalf("Cut of %s answers %d", p, e)
			}
			b, e := p.paste()
			wantBytes(t, "Paste of what was cut of "+p.String(), b, e, p.data, api.OK)
		}
	}
}

// P13.6: what was pasted and is cut is the chunk within the extent, and the fill beyond; all else of the data is as it was.
func TestPasteThenCut(t *testing.T) {
	for _, p := range someGrids(1362, 1000) {
		for _, p.coords = range p.around() {
			start, size, e := grid.Clip(p.dims, p.shape, p.coords)
			if e != api.OK {
				t.Fatalf("Clip of %s answers %d", p, e)
			}
			q := p
			if q.data, e = p.paste(); e != api.OK {
				t.Fatalf("Paste of %s answers %d", p, e)
			}
			var want []byte
			for at, inner := range tuples(p.shape) {
				if holds(make([]int, len(inner)), size, inner) {
					want = append(want, p.chunk[at*p.size:(at+1)*p.size]...)
				} else {
					want = append(want, p.fill...)
				}
			}
			b, e := q.cut()
			wantBytes(t, "Cut of what was pasted of "+p.String(), b, e, want, api.OK)
			for at, tuple := range tuples(p.dims) {
				from, to := at*p.size, (at+1)*p.size
				if !holds(start, size, tuple) && !bytes.Equal(p.data[from:to], q.data[from:to]) {
					t.Fatalf("Paste of %s changes %v", p, tuple)
				}
			}
		}
	}
}

// P13.5, P13.6: all chunks, cut from one extent's data and pasted to another's, make the same data.
func TestAllChunksMakeTheData(t *testing.T) {
	for _, p := range someGrids(1363, 1000) {
		made := make([]byte, len(p.data))
		for _, coords := range p.around() {
			q := p
			q.coords = coords
			q.chunk, _ = q.cut()
			q.data = made
			var e api.Errno
			if made, e = q.paste(); e != api.OK {
				t.Fatalf("Paste of %s answers %d", q, e)
			}
		}
		wantBytes(t, "all chunks of "+p.String(), made, api.OK, p.data, api.OK)
	}
}

// P13.7: data that grow, along one dimension or several, once or twice, and shrink again are as they were, whatever the fills are.
func TestGrowThenShrink(t *testing.T) {
	d := dice(137)
	for _, p := range someGrids(1371, 4000) {
		more, most := slices.Clone(p.dims), slices.Clone(p.dims)
		for i := range more {
			more[i] += d.oneOf(0, 0, 1, 2, 5)
			most[i] = more[i] + d.below(3)
		}
		grown, e := grid.Resize(p.data, p.size, p.dims, more, p.fill)
		if e != api.OK {
			t.Fatalf("Resize of %s to %v answers %d", p, more, e)
		}
		wantResize(t, grown, p.size, more, p.dims, d.bytes(p.size), p.data, api.OK)
		twice, e := grid.Resize(grown, p.size, more, most, d.bytes(p.size))
		if e != api.OK {
			t.Fatalf("Resize of %s to %v answers %d", p, most, e)
		}
		wantResize(t, twice, p.size, most, more, d.bytes(p.size), grown, api.OK)
		wantResize(t, twice, p.size, most, p.dims, d.bytes(p.size), p.data, api.OK)
	}
}

// P13.4, P13.7: what shrinks and grows again has the fill wherever it was cut off.
func TestShrinkThenGrow(t *testing.T) {
	d := dice(1372)
	for _, p := range someGrids(1373, 2000) {
		less := slices.Clone(p.dims)
		for i := range less {
			less[i] = max(0, less[i]-d.below(4))
		}
		shrunk, e := grid.Resize(p.data, p.size, p.dims, less, d.bytes(p.size))
		if e != api.OK {
			t.Fatalf("Resize of %s to %v answers %d", p, less, e)
		}
		want := slices.Clone(p.data)
		for at, tuple := range tuples(p.dims) {
			if !holds(make([]int, len(tuple)), less, tuple) {
				copy(want[at*p.size:], p.fill)
			}
		}
		wantResize(t, shrunk, p.size, less, p.dims, p.fill, want, api.OK)
	}
}
