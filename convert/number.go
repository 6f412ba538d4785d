package convert

import (
	"slabvault/api"
	"slabvault/number"
	"slabvault/octet"
)

// widest is the width of the wider floats.
const widest = 8

// numberStep makes the step from one integer or float to another.
func numberStep(from, to api.Type) step {
	if from.Class == to.Class && from.Width == to.Width {
		return bitStep(from.Width, from.Big != to.Big)
	}
	change := changeOf(from, to)
	return func(out, x []byte) {
		// Both types may be, so there are numbers of their widths, and a change tells one of its own.
		u, _ := octet.Get(x, 0, from.Width, from.Big)
		b, _ := octet.Put(nil, to.Width, to.Big, change(u))
		copy(out, b)
	}
}

// bitStep makes the step that keeps all bits. No float is made of them: that of one that is no number might turn some.
func bitStep(width int, isTurned bool) step {
	if isTurned {
		return func(out, x []byte) { copy(out, octet.Swap(x[:width])) }
	}
	return func(out, x []byte) { copy(out, x[:width]) }
}

// changeOf makes what tells a number of another class or width: both are told by their lowest bytes.
func changeOf(from, to api.Type) func(u uint64) uint64 {
	switch from.Class {
	case api.ClassFloat:
		return changeOfFloat(from, to)
	case api.ClassInt:
		change := changeOfInt(to)
		return func(u uint64) uint64 {
			n, _ := octet.Signed(u, from.Width)
			return change(n)
		}
	}
	return changeOfUint(to)
}

// changeOfFloat makes the change from a float, to one of the other width if it is to a float.
func changeOfFloat(from, to api.Type) func(u uint64) uint64 {
	switch {
	case to.Class != api.ClassFloat:
		return func(u uint64) uint64 { return known(number.Trunc(u, from.Width, to.Width, hasSign(to))) }
	case to.Width == widest:
		return func(u uint64) uint64 { return number.Widen(uint32(u)) }
	}
	return func(u uint64) uint64 { return uint64(number.Narrow(u)) }
}

// changeOfInt makes the change from an integer with a sign.
func changeOfInt(to api.Type) func(n int) uint64 {
	if to.Class == api.ClassFloat {
		return func(n int) uint64 { return known(number.Float(n, to.Width)) }
	}
	return func(n int) uint64 { return known(number.Clamp(n, to.Width, hasSign(to))) }
}

// changeOfUint makes the change from an integer without a sign.
func changeOfUint(to api.Type) func(u uint64) uint64 {
	if to.Class == api.ClassFloat {
		return func(u uint64) uint64 { return known(number.FloatUint(u, to.Width)) }
	}
	return func(u uint64) uint64 { return known(number.ClampUint(u, to.Width, hasSign(to))) }
}

// hasSign says whether the integers of a type have a sign.
func hasSign(t api.Type) bool { return t.Class == api.ClassInt }

// known tells a number without its error, which there is none of: types that may be have no widths but those that number takes.
func known(u uint64, _ api.Errno) uint64 { return u }
