package datatype_test

import (
	"testing"

	"slabvault/api"
	"slabvault/datatype"
)

// at tells a number of a type at a place.
func at(place int, x api.Type) api.Place {
	return api.Place{At: place, Class: x.Class, Width: x.Width, Big: x.Big}
}

// P9.2: an integer or a float is one number, a complex type two floats.
func TestPlacesOfNumbers(t *testing.T) {
	for w := 1; w <= 8; w++ {
		for _, x := range []api.Type{signed(w), high(signed(w)), unsigned(w), high(unsigned(w))} {
			wantPlaces(t, x, at(0, x))
		}
	}
	for _, w := range []int{4, 8} {
		wantPlaces(t, float(w), at(0, float(w)))
		wantPlaces(t, high(float(w)), at(0, high(float(w))))
		wantPlaces(t, complexType(w), at(0, float(w)), at(w, float(w)))
		wantPlaces(t, high(complexType(w)), at(0, high(float(w))), at(w, high(float(w))))
	}
}

// P9.2: a compound's numbers are those of its fields, from their At on, with whatever lies between them left out.
func TestPlacesOfCompounds(t *testing.T) {
	wantPlaces(t, compound(12, field("a", 0, unsigned(2)), field("b", 4, complexType(4))), at(0, unsigned(2)), at(4, float(4)), at(8, float(4)))
	wantPlaces(t, compound(256, field("z", 255, high(signed(1)))), at(255, high(signed(1))))
	wantPlaces(t, compound(40, field("b", 3, high(float(8))), field("a", 11, compound(7, field("d", 1, signed(2)), field("c", 5, unsigned(1)))), field("0", 30, signed(1))),
		at(3, high(float(8))), at(12, signed(2)), at(16, unsigned(1)), at(30, signed(1)))
}

// P9.2: an array's numbers are those of its elements, one behind the other.
func TestPlacesOfArrays(t *testing.T) {
	b := unsigned(1)
	wantPlaces(t, array(b, 1), at(0, b))
	wantPlaces(t, array(b, 2, 3), at(0, b), at(1, b), at(2, b), at(3, b), at(4, b), at(5, b))
	wantPlaces(t, array(b, 1, 2, 1, 2), at(0, b), at(1, b), at(2, b), at(3, b))
	wantPlaces(t, array(high(signed(3)), 3), at(0, high(signed(3))), at(3, high(signed(3))), at(6, high(signed(3))))
	wantPlaces(t, array(complexType(8), 2), at(0, float(8)), at(8, float(8)), at(16, float(8)), at(24, float(8)))
	wantPlaces(t, array(compound(5, field("x", 1, signed(2))), 2, 2), at(1, signed(2)), at(6, signed(2)), at(11, signed(2)), at(16, signed(2)))
	wantPlaces(t, array(array(compound(4, field("x", 0, b), field("y", 2, b)), 2), 2), at(0, b), at(2, b), at(4, b), at(6, b), at(8, b), at(10, b), at(12, b), at(14, b))
	wantPlaces(t, compound(20, field("u", 1, array(signed(2), 2)), field("v", 8, array(float(4), 3))), at(1, signed(2)), at(3, signed(2)), at(8, float(4)), at(12, float(4)), at(16, float(4)))
	if l, e := datatype.Places(array(b, api.MaxElement)); len(l) != api.MaxElement || e != api.OK || l[api.MaxElement-1] != at(api.MaxElement-1, b) {
		t.Error(len(l), int(e))
	}
}

// P9.2: an enum is a number of its Base.
func TestPlacesOfEnums(t *testing.T) {
	for w := 1; w <= 8; w++ {
		for _, x := range []api.Type{signed(w), high(signed(w)), unsigned(w), high(unsigned(w))} {
			wantPlaces(t, enum(x, values(1, 2, 3)...), at(0, x))
			wantPlaces(t, array(enum(x, values(1)...), 2), at(0, x), at(w, x))
			wantPlaces(t, compound(20, field("e", 5, enum(x, values(1)...))), at(5, x))
		}
	}
}

// wantApart asks for places that have no byte in common, and that all lie within the size.
func wantApart(t *testing.T, x api.Type) {
	t.Helper()
	size, _ := datatype.Size(x)
	places, e := datatype.Places(x)
	if e != api.OK || len(places) == 0 {
		t.Errorf("Places(%+v) = %v, %d", x, places, int(e))
	}
	taken := make([]bool, size)
	for _, p := range places {
		for i := range p.Width {
			if p.At < 0 || p.At+i >= size || taken[p.At+i] {
				t.Fatalf("Places(%+v): %v is not apart from the others, or not within %d bytes", x, p, size)
			}
			taken[p.At+i] = true
		}
	}
}

// P9.2, P9.7: of all sorts of types the places are those of the model, and apart.
func TestPlacesAreApart(t *testing.T) {
	for _, x := range goodTypes() {
		wantPlaces(t, x, placesOf(x, 0)...)
		wantApart(t, x)
		for _, put := range within() {
			if y := put(x); mayBe(y) {
				wantPlaces(t, y, placesOf(y, 0)...)
				wantApart(t, y)
			}
		}
	}
}
