package convert_test

import (
	"fmt"
	"testing"

	"slabvault/api"
	"slabvault/convert"
)

// P11.1: numbers and complex types, of every width and order, become one another.
func TestPlainTypesBecomeOneAnother(t *testing.T) {
	for _, from := range plain() {
		for _, to := range plain() {
			wantCan(t, from, to, api.OK, fmt.Sprintf("%+v to %+v", from, to))
		}
	}
}

// P11.1: types of every Class: they become one another or not, as the model says.
func TestGoodTypes(t *testing.T) {
	for _, from := range goodTypes() {
		for _, to := range goodTypes() {
			want := api.ErrConvert
			if becomes(from, to) {
				want = api.OK
			}
			wantCan(t, from, to, want, fmt.Sprintf("%+v to %+v", from, to))
		}
	}
}

// P11.1: a number or a complex type, a compound and an array do not become one another, not even where they have the same numbers.
func TestClassesThatDoNotBecomeOneAnother(t *testing.T) {
	for _, x := range plain() {
		inCompound, inArray := compound(sizeOf(x), field("a", 0, x)), array(x, 1)
		for _, pair := range [][2]api.Type{{x, inCompound}, {x, inArray}, {inCompound, inArray}, {array(inCompound, 1), inCompound}, {compound(sizeOf(x), field("a", 0, inArray)), inArray}, {array(inArray, 1), inArray}} {
			if becomes(pair[0], pair[1]) || becomes(pair[1], pair[0]) {
				t.Fatalf("the model takes %+v for %+v", pair[0], pair[1])
			}
			wantCan(t, pair[0], pair[1], api.ErrConvert, "there")
			wantCan(t, pair[1], pair[0], api.ErrConvert, "back")
		}
	}
	two := compound(8, field("re", 0, float(4)), field("im", 4, float(4)))
	wantCan(t, two, complexType(4), api.ErrConvert, "two floats to a complex type")
	wantCan(t, complexType(4), two, api.ErrConvert, "a complex type to two floats")
	wantCan(t, complexType(4), array(float(4), 2), api.ErrConvert, "a complex type to an array")
	wantCan(t, array(float(4), 2), complexType(4), api.ErrConvert, "an array to a complex type")
}

// P11.1: the names and values of an enum do not matter.
func TestEnumsAreTheirBase(t *testing.T) {
	one, other := enum(signed(2), 1, 2, 3), enum(unsigned(1), 200)
	other.Names[0].Name = "x"
	wantCan(t, one, other, api.OK, "an enum to one of other names")
	wantText(t, one, other, "\x2c\x01", "\xff")
	wantText(t, other, one, "\x07", "\x07\x00") // No member has these values.
	wantText(t, high(float(8)), one, "\xc0\x08\x00\x00\x00\x00\x00\x00", "\xfd\xff")
	wantText(t, high(complexType(4)), other, "\x42\x28\x00\x00\x43\x00\x00\x00", "\x2a")
	wantText(t, other, high(complexType(4)), "\x2a", "\x42\x28\x00\x00\x00\x00\x00\x00")
}

// P11.1: arrays become one another only with the same Dims, in the same order.
func TestDimsOfArrays(t *testing.T) {
	all := [][]int{{1}, {6}, {1, 6}, {6, 1}, {2, 3}, {3, 2}, {1, 2, 3}, {2, 1, 3}, {2, 3, 1}, {1, 1, 2, 3}, {2, 3, 1, 1}, {5}, {7}, {12}, {2, 6}, {1, 1}, {1, 1, 1, 1}}
	for i, from := range all {
		for j, to := range all {
			want := api.ErrConvert
			if i == j {
				want = api.OK
			}
			why := fmt.Sprint(from, " to ", to)
			wantCan(t, array(signed(1), from...), array(signed(1), to...), want, why)
			wantCan(t, array(signed(1), from...), array(complexType(8), to...), want, why)
			wantCan(t, compound(20, field("a", 1, array(signed(1), from...))), compound(20, field("a", 0, array(unsigned(1), to...))), want, why)
		}
	}
	wantCan(t, array(array(signed(1), 3), 2), array(array(signed(1), 2), 3), api.ErrConvert, "arrays within arrays")
	wantCan(t, array(array(signed(1), 3), 2), array(signed(1), 2, 3), api.ErrConvert, "an array of arrays to one of two Dims")
	wantCan(t, array(signed(1), 2, 3), array(array(signed(1), 3), 2), api.ErrConvert, "an array of two Dims to one of arrays")
}

// P11.1: of two compounds the fields that both have matter, wherever they stand, and no others.
func TestFieldsOfCompounds(t *testing.T) {
	one := compound(20, field("a", 0, signed(1)), field("b", 3, array(signed(1), 2)), field("c", 8, complexType(4)))
	for _, c := range []struct {
		to   api.Type
		want api.Errno
	}{
		{compound(1, field("a", 0, unsigned(1))), api.OK},
		{compound(1, field("A", 0, unsigned(1))), api.OK},
		{compound(9, field("x", 0, array(float(4), 2))), api.OK},
		{compound(30, field("c", 1, signed(2)), field("b", 5, array(float(8), 2)), field("a", 22, complexType(4))), api.OK},
		{compound(1, field("b", 0, unsigned(1))), api.ErrConvert},
		{compound(3, field("b", 0, array(unsigned(1), 3))), api.ErrConvert},
		{compound(3, field("x", 0, signed(1)), field("a", 1, array(signed(1), 1))), api.ErrConvert},
		{compound(3, field("a", 0, signed(1)), field("c", 1, compound(1, field("c", 0, signed(1))))), api.ErrConvert},
	} {
		wantCan(t, one, c.to, c.want, fmt.Sprintf("to %+v", c.to))
		wantCan(t, c.to, one, c.want, fmt.Sprintf("from %+v", c.to))
		wantCan(t, array(one, 2), array(c.to, 2), c.want, fmt.Sprintf("an array to one of %+v", c.to))
	}
}

// around tells ways to put two types within others, of which the one becomes the other just if the types do.
func around() []func(x api.Type, isTo bool) api.Type {
	return []func(x api.Type, isTo bool) api.Type{
		func(x api.Type, _ bool) api.Type { return array(x, 1) },
		func(x api.Type, isTo bool) api.Type {
			if isTo {
				return compound(sizeOf(x)+3, field("x", 0, signed(1)), field("d", 2, x))
			}
			return compound(sizeOf(x)+5, field("d", 0, x), field("y", sizeOf(x)+1, float(4)))
		},
	}
}

// P11.1: types that do not become one another, deep within others.
func TestTypesDeepWithin(t *testing.T) {
	type pair struct{ from, to api.Type }
	start := []pair{
		{signed(1), unsigned(2)}, {complexType(4), float(8)}, {enum(signed(1), 1), high(complexType(8))},
		{signed(1), array(signed(1), 1)}, {complexType(4), compound(4, field("a", 0, float(4)))}, {array(signed(1), 2), array(signed(1), 3)}, {compound(1, field("a", 0, signed(1))), enum(signed(1), 1)},
	}
	asked := 0
	for _, p := range start {
		want := api.ErrConvert
		if becomes(p.from, p.to) {
			want = api.OK
		}
		level := []pair{p}
		for range 2 { // With these types themselves it is as deep as may be.
			var deeper []pair
			for _, q := range level {
				for _, put := range around() {
					deeper = append(deeper, pair{put(q.from, false), put(q.to, true)})
				}
			}
			level = deeper
			for _, q := range level {
				wantCan(t, q.from, q.to, want, fmt.Sprintf("%+v to %+v", q.from, q.to))
				asked++
			}
		}
	}
	if asked != 7*6 {
		t.Errorf("%d were asked", asked)
	}
}

// P11.1: a type that may not be, on either side or on both, also where the other one does not become anything like it.
func TestTypesThatMayNotBe(t *testing.T) {
	for i, bad := range badTypes() {
		for j, good := range goodTypes() {
			if j%7 == i%7 || good.Class > api.ClassComplex {
				wantCan(t, bad, good, api.ErrType, fmt.Sprint("bad type ", i, " to good type ", j))
				wantCan(t, good, bad, api.ErrType, fmt.Sprint("good type ", j, " to bad type ", i))
			}
		}
		for j, other := range badTypes() {
			wantCan(t, bad, other, api.ErrType, fmt.Sprint("bad type ", i, " to bad type ", j))
		}
		inField, inArray := compound(api.MaxElement, field("a", 0, signed(1)), field("b", 8, bad)), array(bad, 1)
		for _, x := range []api.Type{inField, inArray} {
			wantCan(t, x, compound(1, field("a", 0, signed(1))), api.ErrType, fmt.Sprint("within, from, bad type ", i))
			wantCan(t, compound(1, field("a", 0, signed(1))), x, api.ErrType, fmt.Sprint("within, to, bad type ", i))
			wantCan(t, x, x, api.ErrType, fmt.Sprint("within, both, bad type ", i))
		}
	}
}

// P11.1: a type becomes itself.
func TestTypesBecomeThemselves(t *testing.T) {
	for _, x := range goodTypes() {
		wantCan(t, x, x, api.OK, fmt.Sprintf("%+v", x))
	}
	if e := convert.Can(api.Type{}, api.Type{}); e != api.ErrType {
		t.Errorf("Can of two zero types = %d", int(e))
	}
}
