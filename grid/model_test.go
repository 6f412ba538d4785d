package grid_test

import (
	"math/big"
	"slices"

	"slabvault/api"
)

// What follows is a second reading of the chapter: tuple by tuple, and in whole numbers of any size.

func whole(n int) *big.Int { return big.NewInt(int64(n)) }

// modelElements is space.Elements by its words.
func modelElements(dims []int) (int, api.Errno) {
	if len(dims) > api.MaxRank {
		return 0, api.ErrArg
	}
	p := whole(1)
	for _, n := range dims {
		if n < 0 || n > api.MaxDim {
			return 0, api.ErrArg
		}
		p.Mul(p, whole(n))
	}
	if p.Cmp(whole(api.MaxDim)) > 0 {
		return 0, api.ErrBig
	}
	return int(p.Int64()), api.OK
}

// modelFit tells whether dims and shape fit.
func modelFit(dims, shape []int) api.Errno {
	if _, e := modelElements(dims); e != api.OK {
		return e
	}
	if len(shape) != len(dims) {
		return api.ErrArg
	}
	for _, n := range shape {
		if n < 1 || n > api.MaxDim {
			return api.ErrArg
		}
	}
	_, e := modelElements(shape)
	return e
}

// modelChunks counts, along each dimension, the coordinates at which a chunk begins within the extent.
func modelChunks(dims, shape []int) (int, api.Errno) {
	if e := modelFit(dims, shape); e != api.OK {
		return 0, e
	}
	p := whole(1)
	for d, n := range dims {
		count := 0
		for first := 0; first < n; first += shape[d] {
			count++
		}
		p.Mul(p, whole(count))
	}
	return int(p.Int64()), api.OK
}

// modelOf divides the numbers, with their rests.
func modelOf(at, shape []int) (coords, inner []int, e api.Errno) {
	if len(at) > api.MaxRank || len(shape) > api.MaxRank || len(at) != len(shape) {
		return nil, nil, api.ErrArg
	}
	for d := range at {
		if at[d] < 0 || shape[d] < 1 || shape[d] > api.MaxDim {
			return nil, nil, api.ErrArg
		}
		q, r := new(big.Int).DivMod(whole(at[d]), whole(shape[d]), new(big.Int))
		coords, inner = append(coords, int(q.Int64())), append(inner, int(r.Int64()))
	}
	return coords, inner, api.OK
}

// areCoords tells whether a list has so many numbers, none below 0.
func areCoords(l []int, rank int) bool {
	return len(l) == rank && (rank == 0 || slices.Min(l) >= 0)
}

// modelClip tells a chunk's first number and the one behind its last, both held within the extent.
func modelClip(dims, shape, coords []int) (start, size []int, e api.Errno) {
	if e := modelFit(dims, shape); e != api.OK {
		return nil, nil, e
	}
	if !areCoords(coords, len(dims)) {
		return nil, nil, api.ErrArg
	}
	for d, n := range dims {
		first := new(big.Int).Mul(whole(coords[d]), whole(shape[d]))
		behind := new(big.Int).Add(first, whole(shape[d]))
		for _, x := range []*big.Int{first, behind} {
			if x.Cmp(whole(n)) > 0 {
				x.Set(whole(n))
			}
		}
		start = append(start, int(first.Int64()))
		size = append(size, int(behind.Sub(behind, first).Int64()))
	}
	return start, size, api.OK
}

// modelPlace tells how many tuples of an extent come ahead of one; -1, if it lies outside.
func modelPlace(dims []int, tuple []*big.Int) int {
	p := whole(0)
	for d, n := range dims {
		if tuple[d].Cmp(whole(n)) >= 0 {
			return -1
		}
		p.Add(p.Mul(p, whole(n)), tuple[d])
	}
	return int(p.Int64())
}

// bigBytes tells whether elements have more than MaxData bytes.
func bigBytes(dims []int, size int) bool {
	n, _ := modelElements(dims)
	return new(big.Int).Mul(whole(n), whole(size)).Cmp(whole(api.MaxData)) > 0
}

// modelError tells the error of Cut or Paste up to the bytes' lengths.
func (p piece) modelError() api.Errno {
	if e := modelFit(p.dims, p.shape); e != api.OK {
		return e
	}
	if p.size < 1 || p.size > api.MaxElement {
		return api.ErrArg
	}
	if bigBytes(p.dims, p.size) || bigBytes(p.shape, p.size) {
		return api.ErrBig
	}
	if n, _ := modelElements(p.dims); len(p.data) != n*p.size || !areCoords(p.coords, len(p.dims)) {
		return api.ErrArg
	}
	return api.OK
}

// places tells for each place of the chunk the one that its tuple has in the extent, or -1.
func (p piece) places() []int {
	var l []int
	for _, inner := range tuples(p.shape) {
		tuple := make([]*big.Int, len(inner))
		for d, n := range inner {
			tuple[d] = whole(n)
			tuple[d].Add(tuple[d], new(big.Int).Mul(whole(p.coords[d]), whole(p.shape[d])))
		}
		l = append(l, modelPlace(p.dims, tuple))
	}
	return l
}

// modelCut tells a chunk's bytes, element by element.
func (p piece) modelCut() ([]byte, api.Errno) {
	if e := p.modelError(); e != api.OK {
		return nil, e
	}
	if len(p.fill) != p.size {
		return nil, api.ErrArg
	}
	var chunk []byte
	for _, at := range p.places() {
		if at < 0 {
			chunk = append(chunk, p.fill...)
		} else {
			chunk = append(chunk, p.data[at*p.size:(at+1)*p.size]...)
		}
	}
	return chunk, api.OK
}

// modelPaste tells the data, element by element.
func (p piece) modelPaste() ([]byte, api.Errno) {
	if e := p.modelError(); e != api.OK {
		return nil, e
	}
	if len(p.chunk) != product(p.shape)*p.size {
		return nil, api.ErrArg
	}
	data := slices.Clone(p.data)
	for i, at := range p.places() {
		if at >= 0 {
			copy(data[at*p.size:(at+1)*p.size], p.chunk[i*p.size:])
		}
	}
	return data, api.OK
}

// modelResize tells the data of another extent, element by element.
func modelResize(data []byte, size int, from, to []int, fill []byte) ([]byte, api.Errno) {
	n, e := modelElements(from)
	if e != api.OK {
		return nil, e
	}
	m, e := modelElements(to)
	if e != api.OK {
		return nil, e
	}
	if len(from) != len(to) || size < 1 || size > api.MaxElement {
		return nil, api.ErrArg
	}
	if bigBytes(from, size) || bigBytes(to, size) {
		return nil, api.ErrBig
	}
	if len(data) != n*size || len(fill) != size {
		return nil, api.ErrArg
	}
	var out []byte
	for p := range m {
		tuple := make([]*big.Int, len(to))
		for d, x := range tupleAt(to, p) {
			tuple[d] = whole(x)
		}
		if at := modelPlace(from, tuple); at >= 0 {
			out = append(out, data[at*size:(at+1)*size]...)
		} else {
			out = append(out, fill...)
		}
	}
	return out, api.OK
}
