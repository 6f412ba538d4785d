package space

import (
	"iter"
	"slices"

	"slabvault/api"
)

// selected tells how many tuples a selection selects, and an iterator that tells them in order.
// A tuple that the iterator tells is not its asker's own: it may be the selection's, or another one behind the next step.
func selected(dims []int, s api.Selection) (int, iter.Seq[[]int], api.Errno) {
	if _, e := Elements(dims); e != api.OK {
		return 0, nil, e
	}
	switch s.Kind {
	case api.SelAll:
		return ofAxes(dims, wholeAxes(dims))
	case api.SelPoints:
		return ofPoints(dims, s.Points)
	case api.SelSlab:
		axes, e := slabAxes(len(dims), s)
		if e != api.OK {
			return 0, nil, e
		}
		return ofAxes(dims, axes)
	}
	return 0, nil, api.ErrArg
}

// ofPoints tells what points select.
func ofPoints(dims []int, points [][]int) (int, iter.Seq[[]int], api.Errno) {
	// All are looked at for what may not be, before one is looked for that lies outside.
	for _, p := range points {
		if !isList(p, len(dims)) {
			return 0, nil, api.ErrArg
		}
	}
	for _, p := range points {
		if isOutside(dims, p) {
			return 0, nil, api.ErrSelection
		}
	}
	if len(points) > api.MaxSelect {
		return 0, nil, api.ErrTooBig
	}
	return len(points), slices.Values(points), api.OK
}

// ofAxes tells what the numbers along all dimensions select.
func ofAxes(dims []int, axes []axis) (int, iter.Seq[[]int], api.Errno) {
	var counts []int
	for _, a := range axes {
		counts = append(counts, a.count, a.block)
	}
	n, isWithin := product(counts, api.MaxSelect)
	// Where nothing is selected, nothing lies outside, wherever an axis begins.
	isNone := isWithin && n == 0
	for d, a := range axes {
		if !isNone && !a.fits(dims[d]) {
			return 0, nil, api.ErrSelection
		}
	}
	if !isWithin {
		return 0, nil, api.ErrTooBig
	}
	return n, tuplesOf(axes), api.OK
}

// tuplesOf tells all tuples of the numbers along the dimensions, those of the last one going fastest.
func tuplesOf(axes []axis) iter.Seq[[]int] {
	return func(yield func([]int) bool) {
		if slices.ContainsFunc(axes, axis.isEmpty) {
			return
		}
		steps, tuple := make([]int, len(axes)), make([]int, len(axes))
		for d, a := range axes {
			tuple[d] = a.at(0)
		}
	tuples:
		for yield(tuple) {
			for d, a := range slices.Backward(axes) {
				if steps[d]++; steps[d] < a.len() {
					tuple[d] = a.at(steps[d])
					continue tuples
				}
				steps[d], tuple[d] = 0, a.at(0)
			}
			return
		}
	}
}

// isList tells whether a list has so many numbers, none of them below 0.
func isList(l []int, rank int) bool {
	return len(l) == rank && !slices.ContainsFunc(l, func(n int) bool { return n < 0 })
}

// isOutside tells whether a tuple has a number that is not below the extent's.
func isOutside(dims, tuple []int) bool {
	for d, n := range dims {
		if tuple[d] >= n {
			return true
		}
	}
	return false
}
