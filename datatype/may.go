package datatype

import (
	"slices"
	"strings"

	"slabvault/api"
)

// maxWidth is the width of the widest integers, and of the widest floats.
const maxWidth = 8

// floatWidth is the width of the narrow floats; that of the wide ones is twice as much.
const floatWidth = 4

// noSize stands for the size of a type that may not be: all others have a byte at least.
const noSize = 0

// sizeOf tells the size of a type, or noSize. It goes no deeper than MaxDepth, however deep the type is.
func sizeOf(t api.Type) int {
	var walk func(t api.Type, depth int) int
	walk = func(t api.Type, depth int) int {
		if depth > api.MaxDepth || !hasOnlyItsOwn(t) {
			return noSize
		}
		inner := func(part api.Type) int { return walk(part, depth+1) }
		parts := 1
		switch t.Class {
		case api.ClassComplex:
			parts = 2
			fallthrough // Each of the parts asks for what a float does.
		case api.ClassFloat:
			if t.Width%floatWidth != 0 {
				return noSize
			}
			fallthrough // All widths of integers that are left now are those of floats.
		case api.ClassInt, api.ClassUint:
			if !isWithin(t.Width, 1, maxWidth) {
				return noSize
			}
			return parts * t.Width
		case api.ClassCompound:
			return compoundSize(t, inner)
		case api.ClassArray:
			return arraySize(t, inner)
		case api.ClassEnum:
			return enumSize(t, inner)
		}
		return noSize
	}
	return walk(t, 1)
}

// hasOnlyItsOwn says whether all of a type is zero that its Class does not name.
func hasOnlyItsOwn(t api.Type) bool {
	switch t.Class {
	case api.ClassInt, api.ClassUint, api.ClassFloat, api.ClassComplex:
		t.Width, t.Big = 0, false
	case api.ClassCompound:
		t.Width, t.Fields = 0, nil
	case api.ClassArray:
		t.Dims, t.Base = nil, nil
	case api.ClassEnum:
		t.Base, t.Names = nil, nil
	}
	return t.Width == 0 && !t.Big && len(t.Fields) == 0 && len(t.Dims) == 0 && len(t.Base) == 0 && len(t.Names) == 0
}

// compoundSize tells the size of a compound, or noSize; inner tells those of its parts.
func compoundSize(t api.Type, inner func(api.Type) int) int {
	if !isWithin(t.Width, 1, api.MaxElement) || !areNamed(t.Fields, func(f api.Field) string { return f.Name }) {
		return noSize
	}
	end := 0
	for _, f := range t.Fields {
		size := inner(f.Type)
		// The end is not made ahead of this: an At may be as great as an int can be.
		if size == noSize || !isWithin(f.At, end, t.Width-size) {
			return noSize
		}
		end = f.At + size
	}
	return t.Width
}

// arraySize tells the size of an array, or noSize; inner tells that of its Base.
func arraySize(t api.Type, inner func(api.Type) int) int {
	if len(t.Base) != 1 || !isWithin(len(t.Dims), 1, api.MaxRank) {
		return noSize
	}
	size := inner(t.Base[0])
	for _, d := range t.Dims {
		// It is held against the limit at each step, so that no product is beyond an int.
		if !isWithin(d, 1, api.MaxElement) || size*d > api.MaxElement {
			return noSize
		}
		size *= d
	}
	return size
}

// enumSize tells the size of an enum, or noSize; inner tells that of its Base.
func enumSize(t api.Type, inner func(api.Type) int) int {
	if len(t.Base) != 1 || !areNamed(t.Names, func(m api.Member) string { return m.Name }) {
		return noSize
	}
	base := t.Base[0]
	size := inner(base)
	if size == noSize || base.Class != api.ClassInt && base.Class != api.ClassUint {
		return noSize
	}
	for i, m := range t.Names {
		isTaken := slices.ContainsFunc(t.Names[:i], func(n api.Member) bool { return n.Value == m.Value })
		if isTaken || !isNumberOf(base, m.Value) {
			return noSize
		}
	}
	return size
}

// isNumberOf says whether a value is a number of a type of integers. A value has 64 bits, so those that are numbers are told by the bits above the type's own.
func isNumberOf(t api.Type, value int) bool {
	if t.Class == api.ClassUint {
		return value >= 0 && uint64(value)>>(8*t.Width) == 0
	}
	above := value >> (8*t.Width - 1)
	return above == 0 || above == -1
}

// areNamed says whether parts are neither none nor too many, and have names that are all unlike.
func areNamed[P any](parts []P, name func(P) string) bool {
	if !isWithin(len(parts), 1, api.MaxFields) {
		return false
	}
	for i, p := range parts {
		isTaken := slices.ContainsFunc(parts[:i], func(q P) bool { return name(q) == name(p) })
		if isTaken || !isName(name(p)) {
			return false
		}
	}
	return true
}

// isName says whether a text is a name.
func isName(s string) bool {
	return isWithin(len(s), 1, api.MaxName) && s != "." && s != ".." && strings.IndexByte(s, 0) < 0 && strings.IndexByte(s, '/') < 0
}

// isWithin says whether n is neither below least nor above most.
func isWithin(n, least, most int) bool { return least <= n && n <= most }
