package space

import "slabvault/api"

// axis is what is selected along one dimension: steps, and from each of them on a block of numbers.
type axis struct {
	start, stride, count, block int
}

// wholeAxes tells those of all tuples of an extent.
func wholeAxes(dims []int) []axis {
	axes := make([]axis, len(dims))
	for d, n := range dims {
		axes[d] = axis{start: 0, stride: 1, count: n, block: 1}
	}
	return axes
}

// slabAxes tells those of a hyperslab.
func slabAxes(rank int, s api.Selection) ([]axis, api.Errno) {
	for _, l := range [][]int{s.Start, s.Stride, s.Count, s.Block} {
		if !isList(l, rank) {
			return nil, api.ErrArg
		}
	}
	axes := make([]axis, rank)
	for d := range axes {
		axes[d] = axis{start: s.Start[d], stride: s.Stride[d], count: s.Count[d], block: s.Block[d]}
	}
	return axes, api.OK
}

// isEmpty tells whether it has no number.
func (a axis) isEmpty() bool { return a.count == 0 || a.block == 0 }

// fits tells whether all numbers of an axis that is not empty are below the extent's.
func (a axis) fits(dim int) bool {
	// What is left behind the start and the block is divided by the stride, because steps times stride could pass an int.
	room := dim - 1 - a.start
	if a.block-1 > room {
		return false
	}
	room -= a.block - 1
	return a.stride == 0 || a.count-1 <= room/a.stride
}

// len tells how many numbers it has; it is asked of none that has more than MaxSelect.
func (a axis) len() int { return a.count * a.block }

// at tells a number of it.
func (a axis) at(k int) int { return a.start + k/a.block*a.stride + k%a.block }
