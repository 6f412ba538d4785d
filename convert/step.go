package convert

import (
	"slices"

	"slabvault/api"
)

// stepOf makes the step of two types that may be, if the one becomes the other.
func stepOf(from, to api.Type) (step, bool) {
	switch from.Class {
	case api.ClassEnum:
		from = from.Base[0]
		fallthrough // An enum is taken as its Base.
	case api.ClassInt, api.ClassUint, api.ClassFloat, api.ClassComplex:
		return plainStep(from, to)
	case api.ClassCompound:
		return compoundStep(from, to)
	case api.ClassArray:
		return arrayStep(from, to)
	}
	return nil, false
}

// plainStep makes the step from an integer, a float or a complex type.
func plainStep(from, to api.Type) (step, bool) {
	parts := 1
	switch to.Class {
	case api.ClassComplex:
		// Of a number there is no second part: the noughts that are there have all bits off.
		if from.Class == api.ClassComplex {
			parts = 2
		}
		to = partOf(to)
		fallthrough // Each part is laid as a float is.
	case api.ClassInt, api.ClassUint, api.ClassFloat:
		from = partOf(from)
		part := way{fromSize: from.Width, toSize: to.Width, element: numberStep(from, to)}
		return part.times(parts), true
	case api.ClassEnum:
		return plainStep(from, to.Base[0])
	}
	return nil, false
}

// partOf tells the type of a complex type's parts; an integer or a float is its own part.
func partOf(t api.Type) api.Type {
	if t.Class == api.ClassComplex {
		t.Class = api.ClassFloat
	}
	return t
}

// compoundStep makes the step from a compound: one for each field that both have.
func compoundStep(from, to api.Type) (step, bool) {
	if to.Class != api.ClassCompound {
		return nil, false
	}
	var fields []step
	for _, target := range to.Fields {
		i := slices.IndexFunc(from.Fields, func(f api.Field) bool { return f.Name == target.Name })
		if i < 0 {
			continue
		}
		source := from.Fields[i]
		inner, is := stepOf(source.Type, target.Type)
		if !is {
			return nil, false
		}
		fields = append(fields, func(out, x []byte) { inner(out[target.At:], x[source.At:]) })
	}
	return func(out, x []byte) {
		for _, field := range fields {
			field(out, x)
		}
	}, true
}

// arrayStep makes the step from an array: that of its Base, as often as it has elements.
func arrayStep(from, to api.Type) (step, bool) {
	if to.Class != api.ClassArray || !slices.Equal(from.Dims, to.Dims) {
		return nil, false
	}
	base, e := wayOf(from.Base[0], to.Base[0])
	if e != api.OK {
		return nil, false
	}
	count := 1
	for _, d := range from.Dims {
		count *= d
	}
	return base.times(count), true
}
