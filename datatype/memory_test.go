package datatype_test

import (
	"bytes"
	"slices"
	"testing"

	"slabvault/api"
	"slabvault/datatype"
)

// spare is how many elements stand behind the length of what is handed in.
const spare = 3

// guarded tells a list with spare room that is filled.
func guarded[E any](l []E, fill E) []E {
	return slices.Concat(l, slices.Repeat([]E{fill}, spare))[:len(l)]
}

// handed tells a type alike, each list of which has spare room that is filled.
func handed(x api.Type) api.Type {
	fill := number(77, 77)
	x.Fields = guarded(x.Fields, field("spare", 77, fill))
	x.Dims = guarded(x.Dims, 77)
	x.Base = guarded(x.Base, fill)
	x.Names = guarded(x.Names, api.Member{Name: "spare", Value: 77})
	for i := range x.Fields {
		x.Fields[i].Type = handed(x.Fields[i].Type)
	}
	for i := range x.Base {
		x.Base[i] = handed(x.Base[i])
	}
	return x
}

// whole tells a copy of a type whose lists have their spare room as elements, so that it can be held against another one.
func whole(x api.Type) api.Type {
	x.Fields, x.Base = slices.Clone(x.Fields[:cap(x.Fields)]), slices.Clone(x.Base[:cap(x.Base)])
	x.Dims, x.Names = slices.Clone(x.Dims[:cap(x.Dims)]), slices.Clone(x.Names[:cap(x.Names)])
	for i := range x.Fields {
		x.Fields[i].Type = whole(x.Fields[i].Type)
	}
	for i := range x.Base {
		x.Base[i] = whole(x.Base[i])
	}
	return x
}

// scribble writes all over a type's lists, the innermost ones first, spare room too.
func scribble(x api.Type) {
	for _, f := range x.Fields {
		scribble(f.Type)
	}
	for _, base := range x.Base {
		scribble(base)
	}
	ink := number(99, 99)
	fill(x.Fields, field("ink", 99, ink))
	fill(x.Dims, 99)
	fill(x.Base, ink)
	fill(x.Names, api.Member{Name: "ink", Value: 99})
}

// fill writes all over a list, spare room too.
func fill[E any](l []E, with E) {
	l = l[:cap(l)]
	for i := range l {
		l[i] = with
	}
}

// lists tells the lists of a type, and of all types within it, each as a way to write all over it alone.
func lists(x *api.Type) []func() {
	ink := number(99, 99)
	all := []func(){
		func() { fill(x.Fields, field("ink", 99, ink)) }, func() { fill(x.Dims, 99) }, func() { fill(x.Base, ink) }, func() { fill(x.Names, api.Member{Name: "ink", Value: 99}) },
	}
	for i := range x.Fields {
		all = append(all, lists(&x.Fields[i].Type)...)
	}
	for i := range x.Base {
		all = append(all, lists(&x.Base[i])...)
	}
	return all
}

// wantApartLists asks for a type no two lists of which share memory: each is written all over, and all else must stay.
func wantApartLists(t *testing.T, tell func() api.Type) {
	t.Helper()
	told := tell()
	for i := range lists(&told) {
		// The lists of what handed tells are apart, so what is left of both is alike just if those of the other one are.
		x, want := tell(), handed(tell())
		lists(&x)[i]()
		lists(&want)[i]()
		if !alike(x, want) {
			t.Errorf("list %d of %+v shares memory with another one", i, told)
		}
	}
}

// memoryTypes are types of all sorts, such as may not be too.
func memoryTypes() []api.Type {
	l := append(goodTypes(), badTypes()...)
	d := dice(900)
	for range 300 {
		l = append(l, d.good(1+d.below(api.MaxElement), api.MaxDepth))
	}
	return l
}

// Rule 4: what is handed in is not changed, its spare room neither.
func TestGivenTypesAreLeftAlone(t *testing.T) {
	all := memoryTypes()
	for i, x := range all {
		y, other := handed(x), handed(all[(i+1)%len(all)])
		before, after := whole(y), whole(other)
		datatype.Check(y)
		datatype.Size(y)
		datatype.Places(y)
		datatype.Turn(y, false)
		datatype.Turn(y, true)
		datatype.Same(y, other)
		datatype.Same(y, y)
		datatype.Swapped(y, other)
		datatype.Swapped(y, turned(x, true))
		datatype.Bytes(y)
		if !alike(before, whole(y)) || !alike(after, whole(other)) {
			t.Errorf("%+v is changed", x)
		}
	}
}

// Rule 7: what lies behind a list's length is not read.
func TestSpareRoomIsNotRead(t *testing.T) {
	for _, x := range memoryTypes() {
		y := handed(x)
		if !datatype.Same(x, y) || datatype.Check(x) != datatype.Check(y) {
			t.Errorf("%+v is another type with spare room", x)
		}
		a, _ := datatype.Bytes(x)
		b, _ := datatype.Bytes(y)
		if !bytes.Equal(a, b) {
			t.Errorf("%+v has other bytes with spare room", x)
		}
	}
}

// Rule 4: a type that Turn tells is new memory, each list of it.
func TestTurnedTypesAreNewMemory(t *testing.T) {
	for _, x := range memoryTypes() {
		if !mayBe(x) {
			continue
		}
		for _, order := range []bool{false, true} {
			y, want := handed(x), turned(x, order)
			before := whole(y)
			first, _ := datatype.Turn(y, order)
			second, _ := datatype.Turn(y, order)
			scribble(first)
			if !alike(before, whole(y)) || !alike(second, want) {
				t.Errorf("Turn(%+v, %v) shares memory with what it was given, or with another answer", x, order)
			}
			scribble(y)
			if !alike(second, want) {
				t.Errorf("Turn(%+v, %v) shares memory with what it was given", x, order)
			}
			wantApartLists(t, func() api.Type {
				z, _ := datatype.Turn(x, order)
				return z
			})
		}
	}
}

// Rule 4: a type that Load tells is new memory, each list of it, and its names are not those of the bytes.
func TestLoadedTypesAreNewMemory(t *testing.T) {
	for _, x := range memoryTypes() {
		if !mayBe(x) {
			continue
		}
		b := guarded(bytesOf(x), 0xee)
		before := bytes.Clone(b[:cap(b)])
		first, _ := datatype.Load(b)
		second, _ := datatype.Load(b)
		scribble(first)
		if !bytes.Equal(before, b[:cap(b)]) {
			t.Errorf("Load(%x) changes its bytes", before)
		}
		fill(b, 0x33)
		if !alike(second, x) {
			t.Errorf("Load of %+v shares memory with what it was given, or with another answer", x)
		}
		wantApartLists(t, func() api.Type {
			z, _ := datatype.Load(bytesOf(x))
			return z
		})
	}
}

// Rule 4: bytes that are none of a type are left alone too.
func TestGivenBytesAreLeftAlone(t *testing.T) {
	d := dice(9000)
	for range 3000 {
		b := guarded(d.spoilBytes(bytesOf(d.good(40, api.MaxDepth))), 0xee)
		before := bytes.Clone(b[:cap(b)])
		datatype.Load(b)
		if !bytes.Equal(before, b[:cap(b)]) {
			t.Fatalf("Load(%x) changes its bytes", before)
		}
	}
}

// Rule 4: places and bytes are new memory.
func TestPlacesAndBytesAreNewMemory(t *testing.T) {
	for _, x := range memoryTypes() {
		if !mayBe(x) {
			continue
		}
		y := handed(x)
		before := whole(y)
		places, _ := datatype.Places(y)
		others, _ := datatype.Places(y)
		b, _ := datatype.Bytes(y)
		c, _ := datatype.Bytes(y)
		fill(places, api.Place{At: -1})
		fill(b, 0x77)
		if !alike(before, whole(y)) || !slices.Equal(others, placesOf(x, 0)) || !bytes.Equal(c, bytesOf(x)) {
			t.Errorf("what is told of %+v is not new memory", x)
		}
		scribble(y)
		if !slices.Equal(others, placesOf(x, 0)) || !bytes.Equal(c, bytesOf(x)) {
			t.Errorf("what is told of %+v is that of what was given", x)
		}
	}
}
