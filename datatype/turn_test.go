package datatype_test

import (
	"math"
	"slices"
	"testing"

	"slabvault/api"
	"slabvault/datatype"
)

// wantTurn asks for a type in both orders.
func wantTurn(t *testing.T, x, low, other api.Type) {
	t.Helper()
	if y, e := datatype.Turn(x, false); e != api.OK || !alike(y, low) {
		t.Errorf("Turn(%+v, false) = %+v, %d; want %+v", x, y, int(e), low)
	}
	if y, e := datatype.Turn(x, true); e != api.OK || !alike(y, other) {
		t.Errorf("Turn(%+v, true) = %+v, %d; want %+v", x, y, int(e), other)
	}
}

// P9.3: each number within a type is turned, and nothing else.
func TestTurnByHand(t *testing.T) {
	for _, x := range []api.Type{signed(1), signed(3), unsigned(8), float(4), complexType(8)} {
		wantTurn(t, x, x, high(x))
		wantTurn(t, high(x), x, high(x))
		wantTurn(t, array(x, 2, 3), array(x, 2, 3), array(high(x), 2, 3))
		wantTurn(t, array(array(high(x), 2), 3), array(array(x, 2), 3), array(array(high(x), 2), 3))
	}
	wantTurn(t, enum(signed(2), values(-5, 7)...), enum(signed(2), values(-5, 7)...), enum(high(signed(2)), values(-5, 7)...))
	mixed := compound(30, field("a", 1, high(signed(2))), field("b", 4, float(8)), field("c", 20, array(enum(high(unsigned(1)), values(9)...), 3)))
	low := compound(30, field("a", 1, signed(2)), field("b", 4, float(8)), field("c", 20, array(enum(unsigned(1), values(9)...), 3)))
	other := compound(30, field("a", 1, high(signed(2))), field("b", 4, high(float(8))), field("c", 20, array(enum(high(unsigned(1)), values(9)...), 3)))
	wantTurn(t, mixed, low, other)
	wantTurn(t, low, low, other)
	wantTurn(t, other, low, other)
}

// wantTurns asks for all that P9.6 says of a type that may be.
func wantTurns(t *testing.T, x api.Type) {
	t.Helper()
	wantTurn(t, x, turned(x, false), turned(x, true))
	size, _ := datatype.Size(x)
	places, _ := datatype.Places(x)
	for _, order := range []bool{false, true} {
		y, _ := datatype.Turn(x, order)
		wantSize(t, y, size)
		want := slices.Clone(places)
		for i := range want {
			want[i].Big = order
		}
		wantPlaces(t, y, want...)
		if !datatype.Swapped(x, y) || !datatype.Swapped(y, x) {
			t.Errorf("%+v and its Turn %+v are not Swapped", x, y)
		}
		for _, back := range []bool{false, true} {
			z, e := datatype.Turn(y, back)
			direct, _ := datatype.Turn(x, back)
			if e != api.OK || !datatype.Same(z, direct) {
				t.Errorf("%+v turned back is %+v, %d; want %+v", y, z, int(e), direct)
			}
		}
	}
}

// P9.6: Turn keeps sizes and places, and back leads back.
func TestTurns(t *testing.T) {
	for _, x := range goodTypes() {
		wantTurns(t, x)
		for _, put := range within() {
			if y := put(x); mayBe(y) {
				wantTurns(t, y)
			}
		}
	}
}

// unlike tells types that differ from one in one thing each, at all depths.
func unlike(x api.Type) []api.Type {
	var l []api.Type
	add := func(change func(y *api.Type)) {
		y := x
		y.Fields, y.Dims, y.Base, y.Names = slices.Clone(x.Fields), slices.Clone(x.Dims), slices.Clone(x.Base), slices.Clone(x.Names)
		change(&y)
		l = append(l, y)
	}
	add(func(y *api.Type) { y.Class++ })
	add(func(y *api.Type) { y.Class = -y.Class - 1 })
	add(func(y *api.Type) { y.Width++ })
	add(func(y *api.Type) { y.Width ^= math.MinInt })
	add(func(y *api.Type) { y.Big = !y.Big })
	add(func(y *api.Type) { y.Fields = append(y.Fields, api.Field{}) })
	add(func(y *api.Type) { y.Dims = append(y.Dims, 0) })
	add(func(y *api.Type) { y.Base = append(y.Base, api.Type{}) })
	add(func(y *api.Type) { y.Names = append(y.Names, api.Member{}) })
	for i, f := range x.Fields {
		add(func(y *api.Type) { y.Fields[i].Name += "x" })
		add(func(y *api.Type) { y.Fields[i].At++ })
		add(func(y *api.Type) { y.Fields = slices.Delete(y.Fields, i, i+1) })
		for _, part := range unlike(f.Type) {
			add(func(y *api.Type) { y.Fields[i].Type = part })
		}
	}
	for i := range x.Dims {
		add(func(y *api.Type) { y.Dims[i]-- })
		add(func(y *api.Type) { y.Dims = y.Dims[:i] })
	}
	for i, base := range x.Base {
		add(func(y *api.Type) { y.Base = slices.Delete(y.Base, i, i+1) })
		for _, part := range unlike(base) {
			add(func(y *api.Type) { y.Base[i] = part })
		}
	}
	for i := range x.Names {
		add(func(y *api.Type) { y.Names[i].Name = "q" + y.Names[i].Name })
		add(func(y *api.Type) { y.Names[i].Value ^= 1 })
		add(func(y *api.Type) { y.Names = slices.Delete(y.Names, i, i+1) })
	}
	return l
}

// copyOf tells a type alike in other memory, with lists that have no element as told: nil, or not.
func copyOf(x api.Type, empty bool) api.Type {
	y := api.Type{Class: x.Class, Width: x.Width, Big: x.Big}
	if empty {
		y.Fields, y.Dims, y.Base, y.Names = make([]api.Field, 0, 5), []int{}, make([]api.Type, 0, 5), []api.Member{}
	}
	y.Dims, y.Names = append(y.Dims, x.Dims...), append(y.Names, x.Names...)
	for _, f := range x.Fields {
		y.Fields = append(y.Fields, field(f.Name, f.At, copyOf(f.Type, empty)))
	}
	for _, base := range x.Base {
		y.Base = append(y.Base, copyOf(base, empty))
	}
	return y
}

// P9.3: Same goes by all fields of any two types, such as may not be too.
func TestSame(t *testing.T) {
	all := append(goodTypes(), badTypes()...)
	for i, x := range all {
		for j, y := range all {
			if is := datatype.Same(x, y); is != (i == j) {
				t.Errorf("Same(%+v, %+v) = %v", x, y, is)
			}
		}
		for _, y := range unlike(x) {
			if datatype.Same(x, y) || datatype.Same(y, x) {
				t.Errorf("%+v and %+v are Same", x, y)
			}
		}
		for _, y := range []api.Type{copyOf(x, false), copyOf(x, true)} {
			if !datatype.Same(x, y) || !datatype.Same(y, x) || !datatype.Same(y, y) {
				t.Errorf("%+v and %+v are not Same", x, y)
			}
		}
	}
}

// P9.3: Same of types that are as deep as anything that is given may be.
func TestSameOfDeepTypes(t *testing.T) {
	deep := func(end api.Type) api.Type {
		for i := range 1<<16 - 2 {
			if i%2 == 0 {
				end = array(end, i)
			} else {
				end = compound(-i, field("", i, end))
			}
		}
		return end
	}
	if !datatype.Same(deep(signed(1)), deep(signed(1))) || datatype.Same(deep(signed(1)), deep(unsigned(1))) || datatype.Same(deep(signed(1)), array(deep(signed(1)), 1)) {
		t.Error("deep types")
	}
}

// P9.3: Swapped asks whether both may be, and are the same but for Big.
func TestSwapped(t *testing.T) {
	good, bad := goodTypes(), badTypes()
	for i, x := range good {
		for j, y := range good {
			want := alike(turned(x, false), turned(y, false))
			if is := datatype.Swapped(x, y); is != want || i == j && !is {
				t.Errorf("Swapped(%+v, %+v) = %v", x, y, is)
			}
		}
		for _, y := range bad {
			if datatype.Swapped(x, y) || datatype.Swapped(y, x) {
				t.Errorf("%+v and %+v are Swapped", x, y)
			}
		}
		for _, y := range unlike(x) {
			want := mayBe(y) && alike(turned(x, false), turned(y, false))
			if datatype.Swapped(x, y) != want || datatype.Swapped(y, x) != want {
				t.Errorf("Swapped(%+v, %+v) = %v", x, y, !want)
			}
		}
	}
	for _, x := range bad {
		if datatype.Swapped(x, x) {
			t.Errorf("%+v and itself are Swapped, and it may not be", x)
		}
	}
	a := compound(4, field("a", 0, signed(2)), field("b", 2, high(signed(2))))
	b := compound(4, field("a", 0, high(signed(2))), field("b", 2, high(signed(2))))
	if !datatype.Swapped(a, b) || datatype.Same(a, b) {
		t.Error("a type of which one number alone is turned")
	}
}
