package convert_test

import (
	"bytes"
	"math"
	"strconv"
	"testing"

	"slabvault/api"
	"slabvault/convert"
)

// number tells a type of numbers that have their lowest byte first; so do those for each Class.
func number(c api.Class, width int) api.Type { return api.Type{Class: c, Width: width} }

func signed(width int) api.Type { return number(api.ClassInt, width) }

func unsigned(width int) api.Type { return number(api.ClassUint, width) }

func float(width int) api.Type { return number(api.ClassFloat, width) }

func complexType(width int) api.Type { return number(api.ClassComplex, width) }

// high tells the same numbers with their highest byte first.
func high(t api.Type) api.Type {
	t.Big = true
	return t
}

func compound(width int, fields ...api.Field) api.Type {
	return api.Type{Class: api.ClassCompound, Width: width, Fields: fields}
}

func field(name string, at int, t api.Type) api.Field {
	return api.Field{Name: name, At: at, Type: t}
}

func array(base api.Type, dims ...int) api.Type {
	return api.Type{Class: api.ClassArray, Dims: dims, Base: []api.Type{base}}
}

// enum tells one that has members of such values, and names of their own.
func enum(base api.Type, values ...int) api.Type {
	t := api.Type{Class: api.ClassEnum, Base: []api.Type{base}}
	for i, v := range values {
		t.Names = append(t.Names, api.Member{Name: "m" + strconv.Itoa(i), Value: v})
	}
	return t
}

// integers tells all types of integers.
func integers() []api.Type {
	var l []api.Type
	for w := 1; w <= 8; w++ {
		l = append(l, signed(w), high(signed(w)), unsigned(w), high(unsigned(w)))
	}
	return l
}

// floats tells all types of floats.
func floats() []api.Type {
	return []api.Type{float(4), high(float(4)), float(8), high(float(8))}
}

// enums tells an enum over each type of integers. Its members do not matter, so they are few of all that the Base has.
func enums() []api.Type {
	var l []api.Type
	for i, base := range integers() {
		l = append(l, enum(base, i, 2*i+1))
	}
	return l
}

// complexes tells all complex types.
func complexes() []api.Type {
	return []api.Type{complexType(4), high(complexType(4)), complexType(8), high(complexType(8))}
}

// numbers tells all types of numbers.
func numbers() []api.Type { return append(append(integers(), floats()...), enums()...) }

// plain tells all types that have a number, and no field or element.
func plain() []api.Type { return append(numbers(), complexes()...) }

// goodTypes are types that may be, of every Class.
func goodTypes() []api.Type {
	return append(plain(),
		compound(1, field("a", 0, signed(1))), compound(api.MaxElement, field("a", 0, signed(1))), compound(12, field("a", 0, unsigned(2)), field("b", 4, complexType(4))),
		compound(12, field("b", 0, unsigned(2)), field("a", 4, complexType(4))), compound(9, field("a", 1, high(float(8)))), compound(8, field("a", 0, array(signed(1), 2)), field("c", 4, enum(high(signed(3)), 5))),
		compound(20, field("a", 2, compound(6, field("b", 1, signed(2)), field("a", 4, signed(2)))), field("b", 9, array(float(4), 2))), compound(3, field("x", 1, unsigned(1))),
		array(signed(1), 1), array(signed(1), 2, 3), array(signed(1), 3, 2), array(signed(1), 6), array(high(float(8)), 6), array(complexType(4), 6), array(enum(signed(2), -1), 6), array(unsigned(1), api.MaxElement),
		array(array(signed(1), 3), 2), array(array(array(high(float(8)), 2), 3), 4), array(compound(3, field("a", 0, signed(1)), field("b", 2, signed(1))), 6), array(unsigned(1), 1, 1, 1, 1),
	)
}

// badTypes are types that may not be, each for another reason.
func badTypes() []api.Type {
	round := array(signed(1), 1)
	round.Base[0] = round
	deep := signed(1)
	for range 1000 {
		deep = array(deep, 1)
	}
	return []api.Type{
		{}, number(8, 1), number(-1, 4), number(math.MaxInt, 4), signed(0), signed(9), unsigned(-1), unsigned(9), float(3), float(5), float(16), complexType(2), complexType(16), signed(math.MinInt), unsigned(math.MaxInt),
		compound(0), compound(4), compound(3, field("a", 0, signed(4))), compound(8, field("a", 0, signed(4)), field("b", 3, signed(4))), compound(8, field("b", 4, signed(4)), field("a", 0, signed(4))),
		compound(8, field("a", -1, signed(4))), compound(8, field("a", math.MaxInt, signed(4))), compound(8, field("a", math.MinInt, signed(4))), compound(api.MaxElement+1, field("a", 0, signed(4))),
		compound(8, field("a", 0, signed(4)), field("a", 4, signed(4))), compound(8, field("a", 0, signed(9))), compound(8, field("", 0, signed(1))), compound(8, field("/", 0, signed(1))),
		array(signed(1)), array(signed(1), 0), array(signed(1), -1), array(signed(1), 257), array(signed(2), 129), array(signed(1), 1, 1, 1, 1, 1), array(api.Type{}, 1), array(signed(1), 1<<32, 1<<32), array(signed(8), 1<<61+1),
		{Class: api.ClassArray, Dims: []int{1}}, {Class: api.ClassArray, Dims: []int{1}, Base: []api.Type{signed(1), signed(1)}}, {Class: api.ClassEnum, Base: []api.Type{signed(1)}},
		enum(signed(1)), enum(signed(1), 128), enum(unsigned(1), -1), enum(unsigned(8), -1), enum(float(4), 1), enum(complexType(4), 1), enum(enum(signed(1), 1), 1), enum(signed(1), 1, 1), {Class: api.ClassEnum, Names: []api.Member{{Name: "a"}}},
		array(array(array(array(signed(1), 1), 1), 1), 1), high(array(signed(1), 1)), high(enum(signed(1), 1)), {Class: api.ClassInt, Width: 1, Dims: []int{1}}, {Width: 1}, round, deep,
	}
}

// wantOne asks for what comes of an element.
func wantOne(t *testing.T, from, to api.Type, x, want []byte) {
	t.Helper()
	if y, e := convert.One(from, to, x); e != api.OK || !bytes.Equal(y, want) {
		t.Errorf("One(%+v, %+v, %x) = %x, %d; want %x", from, to, x, y, int(e), want)
	}
}

// wantText asks for what comes of an element, both of which are written out.
func wantText(t *testing.T, from, to api.Type, x, want string) {
	t.Helper()
	wantOne(t, from, to, []byte(x), []byte(want))
}

// wantAll asks for what comes of elements.
func wantAll(t *testing.T, from, to api.Type, x []byte, n int, want []byte) {
	t.Helper()
	if y, e := convert.All(from, to, x, n); e != api.OK || !bytes.Equal(y, want) {
		t.Errorf("All(%+v, %+v, %.300x, %d) = %.300x, %d; want %.300x", from, to, x, n, y, int(e), want)
	}
}

// wantNoOne asks for an error of One, and for nothing beside it.
func wantNoOne(t *testing.T, from, to api.Type, x []byte, want api.Errno) {
	t.Helper()
	if y, e := convert.One(from, to, x); e != want || len(y) != 0 {
		t.Errorf("One of %d bytes = %.300x, %d; want %d", len(x), y, int(e), int(want))
	}
}

// wantNoAll asks for an error of All, and for nothing beside it.
func wantNoAll(t *testing.T, from, to api.Type, x []byte, n int, want api.Errno) {
	t.Helper()
	if y, e := convert.All(from, to, x, n); e != want || len(y) != 0 {
		t.Errorf("All of %d bytes and n %d = %.300x, %d; want %d", len(x), n, y, int(e), int(want))
	}
}

// wantCan asks for what Can tells, and, of an error, that One and All tell it too, whatever else is wrong with what they are given. The types are told by a text alone: one that is within itself has no end.
func wantCan(t *testing.T, from, to api.Type, want api.Errno, why string) {
	t.Helper()
	if e := convert.Can(from, to); e != want {
		t.Errorf("%s: Can = %d; want %d", why, int(e), int(want))
	}
	if want == api.OK {
		return
	}
	for _, x := range [][]byte{nil, {}, {1}, make([]byte, 8), make([]byte, 2*api.MaxElement)} {
		wantNoOne(t, from, to, x, want)
		for _, n := range []int{0, 1, -1, math.MinInt, api.MaxSelect + 1, math.MaxInt} {
			wantNoAll(t, from, to, x, n, want)
		}
	}
	if t.Failed() {
		t.Fatal(why)
	}
}

// dice tells numbers that are hard to foretell, and always the same ones.
type dice uint64

func (d *dice) below(n int) int {
	*d = *d*6364136223846793005 + 1442695040888963407
	return int(uint64(*d)>>33) % n
}

// bytes tells so many bytes, of which noughts and such with all bits on are not rare.
func (d *dice) bytes(n int) []byte {
	b := make([]byte, n)
	for i := range b {
		b[i] = []byte{byte(d.below(256)), byte(d.below(256)), 0, 0xff, 0x7f, 0x80}[d.below(6)]
	}
	return b
}
