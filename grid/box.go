package grid

import "slices"

// clip tells where a chunk begins within the extent, and how many of its numbers lie there, along each dimension.
func clip(dims, shape, coords []int) (start, box []int) {
	start, box = make([]int, len(dims)), make([]int, len(dims))
	for d := range len(dims) {
		start[d] = dims[d]
		// Divided, because the coordinate times the shape could pass an int.
		if coords[d] <= dims[d]/shape[d] {
			start[d] = coords[d] * shape[d]
		}
		box[d] = min(shape[d], dims[d]-start[d])
	}
	return start, box
}

// common tells the extent of the tuples that two extents of one rank both have.
func common(a, b []int) []int {
	box := make([]int, len(a))
	for d := range len(a) {
		box[d] = min(a[d], b[d])
	}
	return box
}

// part is the elements of an array from a tuple on.
type part struct {
	bytes       []byte
	dims, start []int
}

// whole tells the part that is all of an array.
func whole(bytes []byte, dims []int) part {
	return part{bytes: bytes, dims: dims, start: make([]int, len(dims))}
}

// place tells that of a tuple within the array, the tuple being counted from the part's start on.
func (p part) place(tuple []int) int {
	at := 0
	for d := range len(p.dims) {
		at = at*p.dims[d] + p.start[d] + tuple[d]
	}
	return at
}

// copyBox copies as many elements along each dimension as the box has from one part to another.
func copyBox(to, from part, box []int, size int) {
	rows(box, func(first []int, length int) {
		n := length * size
		target, source := to.place(first)*size, from.place(first)*size
		copy(to.bytes[target:target+n], from.bytes[source:source+n])
	})
}

// rows hands on each row along the last dimension of a box: its first tuple, which is another one behind the call, and how many it has.
func rows(box []int, row func(first []int, length int)) {
	// Asked ahead, because beside a 0 the other dimensions may have more rows than can ever be gone through.
	if slices.Contains(box, 0) {
		return
	}
	last, length := len(box)-1, 1
	if last >= 0 {
		length = box[last]
	}
	tuple := make([]int, len(box))
	var walk func(d int)
	walk = func(d int) {
		if d >= last {
			row(tuple, length)
			return
		}
		for n := range box[d] {
			tuple[d] = n
			walk(d + 1)
		}
	}
	walk(0)
}
