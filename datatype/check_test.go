package datatype_test

import (
	"math"
	"slices"
	"strconv"
	"testing"

	"slabvault/api"
	"slabvault/datatype"
)

// P9.1: types that may be, and such as may not.
func TestGoodAndBadTypes(t *testing.T) {
	for _, x := range goodTypes() {
		if e := datatype.Check(x); e != api.OK {
			t.Errorf("Check(%+v) = %d", x, int(e))
		}
	}
	for _, x := range badTypes() {
		wantNoType(t, x)
	}
}

// P9.1: the widths of integers, floats and complex types, and their sizes.
func TestWidthsOfNumbers(t *testing.T) {
	var widths []int
	for w := -20; w <= 300; w++ {
		widths = append(widths, w)
	}
	for _, w := range append(widths, extremes()...) {
		for _, order := range []bool{false, true} {
			for _, c := range []api.Class{api.ClassInt, api.ClassUint} {
				x := api.Type{Class: c, Width: w, Big: order}
				if w >= 1 && w <= 8 {
					wantSize(t, x, w)
				} else {
					wantNoType(t, x)
				}
			}
			x, z := api.Type{Class: api.ClassFloat, Width: w, Big: order}, api.Type{Class: api.ClassComplex, Width: w, Big: order}
			if w == 4 || w == 8 {
				wantSize(t, x, w)
				wantSize(t, z, 2*w)
			} else {
				wantNoType(t, x)
				wantNoType(t, z)
			}
		}
	}
}

// P9.1: a Class that is none, whatever else the type has.
func TestClassesThatAreNone(t *testing.T) {
	for _, c := range append(extremes(), 0, 8, 9, 10, 255, 256, 257) {
		for _, x := range goodTypes() {
			x.Class = api.Class(c)
			wantNoType(t, x)
		}
		wantNoType(t, api.Type{Class: api.Class(c)})
	}
}

// P9.1: what is not named for a Class is zero, and lists that have no element may be there.
func TestWhatIsNotNamedForAClass(t *testing.T) {
	spoil := map[string]func(x *api.Type){
		"Width":    func(x *api.Type) { x.Width = 1 },
		"Width -1": func(x *api.Type) { x.Width = -1 },
		"Big":      func(x *api.Type) { x.Big = true },
		"Fields":   func(x *api.Type) { x.Fields = []api.Field{field("a", 0, signed(1))} },
		"Dims":     func(x *api.Type) { x.Dims = []int{1} },
		"Base":     func(x *api.Type) { x.Base = []api.Type{signed(1)} },
		"Names":    func(x *api.Type) { x.Names = values(1) },
		"a zero Field": func(x *api.Type) {
			x.Fields = []api.Field{{}}
		},
		"a zero Dim":  func(x *api.Type) { x.Dims = []int{0} },
		"a zero Base": func(x *api.Type) { x.Base = []api.Type{{}} },
		"a zero Name": func(x *api.Type) { x.Names = []api.Member{{}} },
	}
	lists := []string{"Fields", "Dims", "Base", "Names", "a zero Field", "a zero Dim", "a zero Base", "a zero Name"}
	for _, c := range []struct {
		x   api.Type
		not []string
	}{
		{signed(1), lists}, {unsigned(1), lists}, {float(4), lists}, {complexType(4), lists},
		{compound(1, field("a", 0, signed(1))), []string{"Big", "Dims", "Base", "Names", "a zero Dim", "a zero Base", "a zero Name"}},
		{array(signed(1), 1), []string{"Width", "Width -1", "Big", "Fields", "Names", "a zero Field", "a zero Name"}},
		{enum(signed(1), values(1)...), []string{"Width", "Width -1", "Big", "Fields", "Dims", "a zero Field", "a zero Dim"}},
	} {
		if e := datatype.Check(c.x); e != api.OK {
			t.Fatalf("Check(%+v) = %d", c.x, int(e))
		}
		for _, what := range c.not {
			x := c.x
			spoil[what](&x)
			wantNoType(t, x)
			wantNoType(t, array(x, 1))
		}
		empty := c.x
		empty.Fields, empty.Dims = append(make([]api.Field, 0, 3), c.x.Fields...), append(make([]int, 0, 3), c.x.Dims...)
		empty.Base, empty.Names = append(make([]api.Type, 0, 3), c.x.Base...), append(make([]api.Member, 0, 3), c.x.Names...)
		if e := datatype.Check(empty); e != api.OK || !datatype.Same(empty, c.x) {
			t.Errorf("Check(%+v) = %d", empty, int(e))
		}
	}
}

// P9.1: a compound's Width.
func TestWidthsOfCompounds(t *testing.T) {
	for w := -2; w <= 600; w++ {
		x := compound(w, field("a", 0, signed(1)))
		if w >= 1 && w <= api.MaxElement {
			wantSize(t, x, w)
		} else {
			wantNoType(t, x)
		}
	}
	for _, w := range extremes() {
		wantNoType(t, compound(w, field("a", 0, signed(1))))
		wantNoType(t, compound(w))
	}
}

// P9.1: how many Fields a compound has.
func TestCountsOfFields(t *testing.T) {
	for count := range 40 {
		if count >= 1 && count <= api.MaxFields {
			wantSize(t, row(count), count)
		} else {
			wantNoType(t, row(count))
		}
	}
	wantNoType(t, row(api.MaxElement))
	wantNoType(t, compound(1, slices.Repeat([]api.Field{field("a", 0, signed(1))}, 100000)...))
}

// P9.1: where a compound's fields lie.
func TestPlacesOfFields(t *testing.T) {
	two := func(width, at, other int) api.Type {
		return compound(width, field("a", at, signed(3)), field("b", other, complexType(4)))
	}
	for width := 1; width <= 20; width++ {
		for at := -3; at <= 20; at++ {
			for other := -3; other <= 20; other++ {
				if x := two(width, at, other); at >= 0 && other >= at+3 && other+8 <= width {
					wantSize(t, x, width)
				} else if e := datatype.Check(x); e != api.ErrType {
					t.Errorf("Check(%+v) = %d", x, int(e))
				}
			}
		}
	}
	for _, far := range extremes() {
		wantNoType(t, two(11, far, 3))
		wantNoType(t, two(11, 0, far))
		wantNoType(t, two(11, far, far))
	}
	wantSize(t, compound(api.MaxElement, field("a", 0, array(signed(1), api.MaxElement))), api.MaxElement)
	wantNoType(t, compound(api.MaxElement, field("a", 1, array(signed(1), api.MaxElement))))
	wantNoType(t, compound(api.MaxElement, field("a", 0, array(signed(1), api.MaxElement)), field("b", api.MaxElement, signed(1))))
	wantNoType(t, compound(api.MaxElement, field("a", 0, array(signed(1), api.MaxElement+1))))
	wantNoType(t, compound(8, field("a", 0, unsigned(2)), field("b", 4, complexType(4))))
}

// P9.1: names of fields and of members.
func TestNamesOfParts(t *testing.T) {
	fields := func(names ...string) api.Type {
		x := row(len(names))
		for i, name := range names {
			x.Fields[i].Name = name
		}
		return x
	}
	members := func(names ...string) api.Type {
		x := enum(unsigned(1), values(upTo(len(names))...)...)
		for i, name := range names {
			x.Names[i].Name = name
		}
		return x
	}
	for _, of := range []func(names ...string) api.Type{fields, members} {
		for _, bad := range badNames() {
			wantNoType(t, of(bad))
			wantNoType(t, of(bad, "x"))
			wantNoType(t, of("x", "y", bad))
		}
		all := goodNames()
		if e := datatype.Check(of(all...)); e != api.OK {
			t.Errorf("names %q: %d", all, int(e))
		}
		for i := range all {
			for j := range i {
				names := slices.Clone(all)
				names[i] = names[j]
				wantNoType(t, of(names...))
			}
		}
		if e := datatype.Check(of("a", "A", "aa", "a ", "\u00e4", "a\u0308")); e != api.OK {
			t.Errorf("names that are nearly alike: %d", int(e))
		}
	}
	if e := datatype.Check(compound(2, field("a", 0, row(1)), field("f0", 1, row(1)))); e != api.OK {
		t.Errorf("names that are alike in types within one another: %d", int(e))
	}
}

// P9.1: how many Dims an array has, and how great they are.
func TestDimsOfArrays(t *testing.T) {
	for count := range 12 {
		x := array(signed(2), slices.Repeat([]int{1}, count)...)
		if count >= 1 && count <= api.MaxRank {
			wantSize(t, x, 2)
		} else {
			wantNoType(t, x)
		}
	}
	wantNoType(t, array(signed(1), slices.Repeat([]int{1}, 100000)...))
	for d := -2; d <= 600; d++ {
		for size := 1; size <= 3; size++ {
			x := array(unsigned(size), d)
			if d >= 1 && d*size <= api.MaxElement {
				wantSize(t, x, d*size)
			} else {
				wantNoType(t, x)
			}
		}
	}
	for _, d := range extremes() {
		for _, dims := range [][]int{{d}, {d, 1}, {1, d}, {d, d}, {2, d, 2}, {d, 1, 1, d}, {d, d, d, d}} {
			wantNoType(t, array(signed(1), dims...))
			wantNoType(t, array(signed(8), dims...))
		}
	}
}

// P9.1: Dims that are too great together, also where their product is beyond what an int bears, and is less there.
func TestDimsTogether(t *testing.T) {
	for _, dims := range [][]int{{16, 16}, {1, 256}, {256, 1}, {2, 128}, {4, 4, 4, 4}, {2, 2, 64, 1}, {1, 1, 1, 256}} {
		wantSize(t, array(signed(1), dims...), api.MaxElement)
		wantNoType(t, array(signed(2), dims...))
		wantNoType(t, array(complexType(8), dims...))
	}
	for _, dims := range [][]int{
		{16, 17}, {17, 16}, {2, 129}, {257, 1}, {256, 2}, {256, 256, 256, 256}, {4, 4, 4, 5}, {1, 257}, {3, 86},
		{1 << 32, 1 << 32}, {1 << 62, 4}, {1 << 62, 1, 2, 2}, {1 << 16, 1 << 16, 1 << 16, 1 << 16}, {1 << 33, 1 << 31, 1, 1}, {-1, -1}, {-2, -3}, {1, 0}, {0, 257}, {256, 0}, {1<<32 + 1, 1 << 32},
		{math.MinInt, 2}, {math.MaxInt, math.MaxInt},
	} {
		wantNoType(t, array(signed(1), dims...))
		wantNoType(t, array(complexType(8), dims...))
	}
	// With the Base's size these are 2^64 and a little more.
	wantNoType(t, array(signed(8), 1<<61+1))
	wantNoType(t, array(signed(4), 1<<62+1))
	wantNoType(t, array(signed(3), 6148914691236517206))
	wantNoType(t, array(signed(3), 6148914691236517206, 1))
	wantNoType(t, array(complexType(8), 2, 1<<59+1))
	wantNoType(t, array(array(signed(1), 128), 1<<57+1))
	wantSize(t, array(array(array(complexType(8), 2), 2), 4), api.MaxElement)
	wantNoType(t, array(array(array(complexType(8), 2), 2), 5))
	wantNoType(t, array(array(array(complexType(8), 2), 17), 1))
	wantSize(t, array(compound(64, field("a", 0, signed(1))), 2, 2), api.MaxElement)
	wantNoType(t, array(compound(64, field("a", 0, signed(1))), 5))
	wantSize(t, array(enum(signed(8), values(1)...), 32), api.MaxElement)
	wantNoType(t, array(enum(signed(8), values(1)...), 33))
}

// P9.1: an array and an enum have one Base.
func TestCountsOfBases(t *testing.T) {
	for _, x := range []api.Type{array(signed(1), 1), enum(signed(1), values(1)...)} {
		for count := range 5 {
			x.Base = slices.Repeat([]api.Type{signed(1)}, count)
			if count == 1 {
				wantSize(t, x, 1)
			} else {
				wantNoType(t, x)
			}
		}
		x.Base = []api.Type{signed(1), {}}
		wantNoType(t, x)
		x.Base = []api.Type{{}, signed(1)}
		wantNoType(t, x)
	}
}

// around are ways to put a type within another one that is one deeper, and hardly greater.
func around() []func(x api.Type) api.Type {
	return []func(x api.Type) api.Type{
		func(x api.Type) api.Type { return array(x, 1) },
		func(x api.Type) api.Type { return compound(sizeOf(x), field("a", 0, x)) },
		func(x api.Type) api.Type {
			return compound(sizeOf(x)+2, field("a", 0, signed(1)), field("b", 1, x), field("c", 1+sizeOf(x), unsigned(1)))
		},
	}
}

// nested tells all types that have x so many types deep within them.
func nested(x api.Type, times int) []api.Type {
	l := []api.Type{x}
	for range times {
		var deeper []api.Type
		for _, y := range l {
			for _, put := range around() {
				deeper = append(deeper, put(y))
			}
		}
		l = deeper
	}
	return l
}

// P9.1: a type that is MaxDepth deep may be, one that is deeper may not.
func TestDepths(t *testing.T) {
	for _, x := range []api.Type{signed(1), high(unsigned(2)), float(4), complexType(4), enum(signed(1), values(1)...)} {
		for times := range 7 {
			for _, y := range nested(x, times) {
				if 1+len(x.Base)+times <= api.MaxDepth {
					wantSize(t, y, sizeOf(y))
				} else {
					wantNoType(t, y)
				}
			}
		}
	}
}

// P9.1: types that are far too deep, and such as are within themselves. They are not told where they fail: that would have no end.
func TestDepthsWithoutEnd(t *testing.T) {
	deep := signed(1)
	for range 1 << 16 {
		deep = array(deep, 1)
	}
	inner := array(signed(1), 1)
	inner.Base[0] = inner
	round := compound(4, field("a", 0, signed(1)), field("b", 1, signed(1)))
	round.Fields[0].Type, round.Fields[1].Type = round, round
	names := enum(signed(1), values(1)...)
	names.Base[0] = names
	for i, x := range []api.Type{deep, inner, round, names} {
		_, size := datatype.Size(x)
		_, places := datatype.Places(x)
		_, turn := datatype.Turn(x, true)
		_, laid := datatype.Bytes(x)
		for _, e := range []api.Errno{datatype.Check(x), size, places, turn, laid} {
			if e != api.ErrType {
				t.Errorf("type %d: error %d", i, int(e))
			}
		}
	}
}

// P9.1: a part deep within that may not be.
func TestBadPartsWithin(t *testing.T) {
	for name, outer := range within() {
		for _, bad := range badTypes() {
			if x := outer(bad); datatype.Check(x) != api.ErrType || datatype.Check(array(x, 1)) != api.ErrType || datatype.Check(compound(api.MaxElement, field("q", 0, x))) != api.ErrType {
				t.Errorf("%s is %+v: it may be", name, bad)
			}
		}
		if e := datatype.Check(outer(signed(1))); e != api.OK {
			t.Errorf("%s: %d", name, int(e))
		}
	}
	for _, bad := range badTypes() {
		wantNoType(t, enum(bad, values(1)...))
	}
}

// P9.1: an enum's Base is an integer.
func TestBasesOfEnums(t *testing.T) {
	for _, base := range goodTypes() {
		x := enum(base, values(1, 2)...)
		if base.Class == api.ClassInt || base.Class == api.ClassUint {
			wantSize(t, x, base.Width)
		} else {
			wantNoType(t, x)
		}
	}
}

// P9.1: how many members an enum has.
func TestCountsOfMembers(t *testing.T) {
	for count := range 40 {
		x := enum(high(unsigned(2)), values(upTo(count)...)...)
		if count >= 1 && count <= api.MaxFields {
			wantSize(t, x, 2)
		} else {
			wantNoType(t, x)
		}
	}
	wantNoType(t, enum(unsigned(4), values(upTo(100000)...)...))
}

// ends tells the least and the greatest number of an integer type, as chapter 9 says; the greatest one that an int bears, if it does not bear that.
func ends(x api.Type) (least, most int) {
	least, most = -128, 127
	if x.Class == api.ClassUint {
		least, most = 0, 255
	}
	for range x.Width - 1 {
		if least, most = least*256, most*256+255; most < 0 {
			return least, math.MaxInt
		}
	}
	return least, most
}

// P9.1: an enum's values are numbers of its Base.
func TestValuesOfEnums(t *testing.T) {
	for w := 1; w <= 8; w++ {
		for _, base := range []api.Type{signed(w), high(signed(w)), unsigned(w), high(unsigned(w))} {
			least, most := ends(base)
			wantSize(t, enum(base, values(least)...), w)
			wantSize(t, enum(base, values(most)...), w)
			wantSize(t, enum(base, values(least, most, least+1, most-1, 5, 7)...), w)
			if most < math.MaxInt {
				for _, v := range []int{most + 1, most + 2, 2*most + 1, math.MaxInt} {
					wantNoType(t, enum(base, values(v)...))
					wantNoType(t, enum(base, values(0, 1, v)...))
				}
			}
			if least > math.MinInt {
				for _, v := range []int{least - 1, least - 2, math.MinInt} {
					wantNoType(t, enum(base, values(v)...))
					wantNoType(t, enum(base, values(0, v, 1)...))
				}
			}
		}
	}
	if least, most := ends(signed(8)); least != math.MinInt || most != math.MaxInt {
		t.Error(least, most)
	}
}

// P9.1: an enum's values are all unlike.
func TestValuesOfEnumsAreUnlike(t *testing.T) {
	all := []int{0, 1, -1, 127, -128, 2, 3, 4, 5, 6, 7, 8, 9, 10, 11, 12}
	wantSize(t, enum(signed(1), values(all...)...), 1)
	for i := range all {
		for j := range i {
			l := slices.Clone(all)
			l[i] = l[j]
			wantNoType(t, enum(signed(1), values(l...)...))
		}
	}
	wantSize(t, enum(unsigned(2), values(0, 256)...), 2)
	wantSize(t, enum(signed(8), values(1, 1+1<<32, 1-1<<32)...), 8)
}

// P9.1: the document's example.
func TestSizesOfTheExample(t *testing.T) {
	wantSize(t, signed(3), 3)
	wantSize(t, array(signed(1), 2, 3), 6)
	wantSize(t, compound(12, field("a", 0, unsigned(2)), field("b", 4, complexType(4))), 12)
	wantNoType(t, enum(unsigned(1), values(256)...))
	for i := range 4 {
		wantSize(t, compound(10+i, field("x"+strconv.Itoa(i), i, complexType(4))), 10+i)
	}
}
