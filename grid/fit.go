package grid

import (
	"slices"

	"slabvault/api"
	"slabvault/space"
)

// fit tells how many elements an extent and a chunk of it have, or why the two do not fit.
func fit(dims, shape []int) (elements, inChunk int, e api.Errno) {
	elements, e = space.Elements(dims)
	if e != api.OK {
		return 0, 0, e
	}
	if !isShape(shape, len(dims)) {
		return 0, 0, api.ErrArg
	}
	inChunk, e = space.Elements(shape)
	if e != api.OK {
		return 0, 0, e
	}
	return elements, inChunk, api.OK
}

// fitBytes tells what fit does, of elements of so many bytes.
func fitBytes(size int, dims, shape []int) (elements, inChunk int, e api.Errno) {
	elements, inChunk, e = fit(dims, shape)
	if e != api.OK {
		return 0, 0, e
	}
	if e = weigh(size, elements, inChunk); e != api.OK {
		return 0, 0, e
	}
	return elements, inChunk, api.OK
}

// weigh tells whether there may be elements of so many bytes, and so many of them in either of two arrays.
func weigh(size, one, other int) api.Errno {
	if size < 1 || size > api.MaxElement {
		return api.ErrArg
	}
	// At most MaxDim elements of MaxElement bytes, which an int holds.
	if max(one, other)*size > api.MaxData {
		return api.ErrBig
	}
	return api.OK
}

// isTuple tells whether a list has so many numbers, none of them below 0.
func isTuple(l []int, rank int) bool {
	return len(l) == rank && !slices.ContainsFunc(l, func(n int) bool { return n < 0 })
}

// isShape tells whether a list has so many numbers, each of which a chunk may have along a dimension.
func isShape(l []int, rank int) bool {
	return len(l) == rank && !slices.ContainsFunc(l, func(n int) bool { return n < 1 || n > api.MaxDim })
}
