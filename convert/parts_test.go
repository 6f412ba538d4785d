package convert_test

import (
	"bytes"
	"slices"
	"testing"

	"slabvault/api"
	"slabvault/convert"
)

// P11.5: each complex type to each number: its first part alone matters.
func TestComplexToNumbers(t *testing.T) {
	for _, from := range complexes() {
		others := floatsOf(baseOf(from))
		for _, to := range numbers() {
			for i, first := range matters(from) {
				x := slices.Concat(first, others[(7*i+3)%len(others)])
				wantOne(t, from, to, x, numberOf(baseOf(from), baseOf(to), first))
			}
			if t.Failed() {
				t.FailNow()
			}
		}
	}
}

// P11.5: each number to each complex type: the second part has all bits off.
func TestNumbersToComplex(t *testing.T) {
	for _, from := range numbers() {
		for _, to := range complexes() {
			for _, x := range matters(from) {
				wantOne(t, from, to, x, slices.Concat(numberOf(baseOf(from), baseOf(to), x), make([]byte, to.Width)))
			}
			if t.Failed() {
				t.FailNow()
			}
		}
	}
}

// P11.5: complex types to one another, of either width and order: the parts become apart, each as a float of that type does.
func TestComplexToComplex(t *testing.T) {
	for _, from := range complexes() {
		all := floatsOf(baseOf(from))
		for _, to := range complexes() {
			for i, first := range all {
				second := all[(11*i+5)%len(all)]
				one, _ := convert.One(baseOf(from), baseOf(to), first)
				other, _ := convert.One(baseOf(from), baseOf(to), second)
				wantOne(t, from, to, slices.Concat(first, second), slices.Concat(one, other))
				wantOne(t, from, to, slices.Concat(second, first), slices.Concat(other, one))
				wantOne(t, from, to, slices.Concat(first, second), comes(from, to, slices.Concat(first, second)))
			}
			if t.Failed() {
				t.FailNow()
			}
		}
	}
	wantText(t, high(complexType(4)), complexType(4), "\x01\x02\x03\x04\x05\x06\x07\x08", "\x04\x03\x02\x01\x08\x07\x06\x05")
	wantText(t, high(complexType(4)), high(complexType(8)), "\x3f\x80\x00\x00\xc0\x00\x00\x00", "\x3f\xf0\x00\x00\x00\x00\x00\x00\xc0\x00\x00\x00\x00\x00\x00\x00")
}

// P11.5: compounds that are written out: fields in another order, such as the one or the other has not, gaps.
func TestCompoundsByHand(t *testing.T) {
	byteOf, two := unsigned(1), high(unsigned(2))
	from := compound(2, field("a", 0, byteOf), field("b", 1, byteOf))
	wantText(t, from, compound(3, field("b", 0, two), field("c", 2, byteOf)), "\x05\x06", "\x00\x06\x00")
	wantText(t, from, compound(2, field("b", 0, byteOf), field("a", 1, byteOf)), "\x05\x06", "\x06\x05")
	wantText(t, from, compound(1, field("a", 0, byteOf)), "\x05\x06", "\x05")
	wantText(t, from, compound(1, field("b", 0, byteOf)), "\x05\x06", "\x06")
	wantText(t, from, compound(4, field("x", 1, two)), "\x05\x06", "\x00\x00\x00\x00")
	wantText(t, from, compound(6, field("b", 1, byteOf), field("a", 3, two)), "\x05\x06", "\x00\x06\x00\x00\x05\x00")
	gaps := compound(6, field("a", 1, byteOf), field("b", 4, byteOf))
	wantText(t, gaps, from, "\xff\x05\xff\xff\x06\xff", "\x05\x06")
	wantText(t, gaps, gaps, "\xff\x05\xff\xff\x06\xff", "\x00\x05\x00\x00\x06\x00")
	wantText(t, gaps, compound(6, field("b", 0, byteOf), field("c", 2, byteOf)), "\xff\x05\xff\xff\x06\xff", "\x06\x00\x00\x00\x00\x00")
}

// P11.5: names are held against each other by their bytes, and whole.
func TestNamesOfFields(t *testing.T) {
	byteOf := unsigned(1)
	long := string(bytes.Repeat([]byte("n"), api.MaxName))
	from := compound(4, field("a", 0, byteOf), field("aa", 1, byteOf), field("\u00e4", 2, byteOf), field(long, 3, byteOf))
	for _, c := range []struct{ name, want string }{
		{"a", "\x01"}, {"aa", "\x02"}, {"\u00e4", "\x03"}, {long, "\x04"}, {"A", "\x00"}, {"a ", "\x00"}, {"a\u0308", "\x00"}, {"aaa", "\x00"}, {long[1:], "\x00"}, {"\xe4", "\x00"},
	} {
		wantText(t, from, compound(1, field(c.name, 0, byteOf)), "\x01\x02\x03\x04", c.want)
	}
	inner := compound(3, field("a", 0, byteOf), field("b", 1, compound(2, field("a", 0, byteOf), field("b", 1, byteOf))))
	other := compound(3, field("b", 0, compound(2, field("b", 0, byteOf), field("a", 1, byteOf))), field("a", 2, byteOf))
	wantText(t, inner, other, "\x01\x02\x03", "\x03\x02\x01")
}

// P11.5: compounds with as many fields as may be, the other way about.
func TestManyFields(t *testing.T) {
	from, to := compound(api.MaxFields), compound(2*api.MaxFields)
	var x, want []byte
	for i := range api.MaxFields {
		from.Fields = append(from.Fields, field(string(rune('a'+i)), i, signed(1)))
		to.Fields = append(to.Fields, field(string(rune('a'+api.MaxFields-1-i)), 2*i, high(signed(2))))
		x = append(x, byte(i))
		want = append(want, 0, byte(api.MaxFields-1-i))
	}
	wantOne(t, from, to, x, want)
	wantOne(t, to, from, want, x)
}

// P11.5: each field of a compound, and each element of an array, is what comes of it alone.
func TestFieldsAndElementsAlone(t *testing.T) {
	d := dice(11)
	for i, from := range goodTypes() {
		for j, to := range goodTypes() {
			if from.Class == to.Class && becomes(from, to) && (from.Class == api.ClassCompound || from.Class == api.ClassArray) {
				x := d.bytes(sizeOf(from))
				y, e := convert.One(from, to, x)
				if e != api.OK || !bytes.Equal(y, apart(t, from, to, x)) {
					t.Errorf("type %d to type %d: One(%x) = %x, %d", i, j, x, y, int(e))
				}
			}
		}
	}
}

// apart tells what comes of a compound or an array if its fields or elements are asked for one by one.
func apart(t *testing.T, from, to api.Type, x []byte) []byte {
	out := make([]byte, sizeOf(to))
	one := func(f, g api.Type, at, toAt int) {
		y, e := convert.One(f, g, x[at:at+sizeOf(f)])
		if e != api.OK {
			t.Errorf("One(%+v, %+v): %d", f, g, int(e))
		}
		copy(out[toAt:], y)
	}
	if from.Class == api.ClassArray {
		f, g := from.Base[0], to.Base[0]
		for i := range sizeOf(from) / sizeOf(f) {
			one(f, g, i*sizeOf(f), i*sizeOf(g))
		}
	}
	for _, f := range from.Fields {
		for _, g := range to.Fields {
			if f.Name == g.Name {
				one(f.Type, g.Type, f.At, g.At)
			}
		}
	}
	return out
}

// P11.5: arrays that are written out: all elements, in order, also of several Dims.
func TestArraysByHand(t *testing.T) {
	wantText(t, array(signed(1), 2, 3), array(high(signed(2)), 2, 3), "\x01\x02\x03\xff\xfe\x80", "\x00\x01\x00\x02\x00\x03\xff\xff\xff\xfe\xff\x80")
	wantText(t, array(high(unsigned(2)), 1, 3, 1), array(unsigned(1), 1, 3, 1), "\x00\x01\x01\x00\x00\xff", "\x01\xff\xff")
	wantText(t, array(complexType(4), 1), array(unsigned(1), 1), "\x00\x00\x40\x40\x01\x02\x03\x04", "\x03")
	wantText(t, array(unsigned(1), 2), array(high(complexType(4)), 2), "\x01\x02", "\x3f\x80\x00\x00\x00\x00\x00\x00\x40\x00\x00\x00\x00\x00\x00\x00")
	wantText(t, array(array(signed(1), 2), 3), array(array(high(signed(2)), 2), 3), "\x01\x02\x03\x04\x05\x06", "\x00\x01\x00\x02\x00\x03\x00\x04\x00\x05\x00\x06")
	all := bytes.Repeat([]byte{7, 200, 0, 255}, api.MaxElement/4)
	wantOne(t, array(unsigned(1), 4, 4, 4, 4), array(unsigned(1), 4, 4, 4, 4), all, all)
	wantOne(t, array(unsigned(1), 4, 4, 4, 4), array(signed(1), 4, 4, 4, 4), all, bytes.Repeat([]byte{7, 127, 0, 127}, api.MaxElement/4))
}

// P11.5: compounds and arrays within compounds and arrays, as deep as may be.
func TestTypesWithinTypesByHand(t *testing.T) {
	from := compound(6, field("g", 1, array(compound(2, field("p", 0, unsigned(1)), field("q", 1, signed(1))), 2)))
	to := compound(11, field("h", 0, signed(1)), field("g", 2, array(compound(4, field("q", 0, high(signed(2))), field("r", 3, signed(1))), 2)))
	wantText(t, from, to, "\xee\x01\x02\x03\xff\xee", "\x00\x00"+"\x00\x02\x00\x00"+"\xff\xff\x00\x00"+"\x00")
	wantText(t, to, from, "\xee\xee\x00\x02\xee\xee\xff\x00\xee\xee\xee", "\x00\x00\x02\x00\x80\x00")
	from = array(compound(5, field("p", 0, unsigned(1)), field("g", 2, array(signed(1), 2))), 2)
	to = array(compound(6, field("g", 1, array(high(signed(2)), 2)), field("p", 5, unsigned(1))), 2)
	wantText(t, from, to, "\x01\xee\x02\xff\xee"+"\x03\xee\x04\x80\xee", "\x00\x00\x02\xff\xff\x01"+"\x00\x00\x04\xff\x80\x03")
	wantText(t, to, from, "\xee\x00\x02\xff\xff\x01"+"\xee\x01\x04\xff\x00\x03", "\x01\x00\x02\xff\x00"+"\x03\x00\x7f\x80\x00")
}
