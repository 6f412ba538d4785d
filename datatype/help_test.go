package datatype_test

import (
	"bytes"
	"math"
	"slices"
	"strconv"
	"strings"
	"testing"

	"slabvault/api"
	"slabvault/datatype"
)

// number tells a type of numbers that have their lowest byte first; so do those for each Class.
func number(c api.Class, width int) api.Type { return api.Type{Class: c, Width: width} }

func signed(width int) api.Type { return number(api.ClassInt, width) }

func unsigned(width int) api.Type { return number(api.ClassUint, width) }

func float(width int) api.Type { return number(api.ClassFloat, width) }

func complexType(width int) api.Type { return number(api.ClassComplex, width) }

// high tells the same numbers with their highest byte first.
func high(t api.Type) api.Type {
	t.Big = true
	return t
}

func compound(width int, fields ...api.Field) api.Type {
	return api.Type{Class: api.ClassCompound, Width: width, Fields: fields}
}

func field(name string, at int, t api.Type) api.Field {
	return api.Field{Name: name, At: at, Type: t}
}

func array(base api.Type, dims ...int) api.Type {
	return api.Type{Class: api.ClassArray, Dims: dims, Base: []api.Type{base}}
}

func enum(base api.Type, names ...api.Member) api.Type {
	return api.Type{Class: api.ClassEnum, Base: []api.Type{base}, Names: names}
}

// values tells members that have such values, and names of their own.
func values(all ...int) []api.Member {
	var l []api.Member
	for i, v := range all {
		l = append(l, api.Member{Name: "m" + strconv.Itoa(i), Value: v})
	}
	return l
}

// row tells a compound of so many bytes, each of which is a field.
func row(count int) api.Type {
	t := compound(count)
	for i := range count {
		t.Fields = append(t.Fields, field("f"+strconv.Itoa(i), i, unsigned(1)))
	}
	return t
}

// upTo tells the numbers from 0 on, so many.
func upTo(count int) []int {
	var l []int
	for i := range count {
		l = append(l, i)
	}
	return l
}

// goodNames are names; badNames are texts that are none.
func goodNames() []string {
	return []string{"a", "ab", " ", "...", ".a", "a.", ". ", "\\", "\x01", "\xff", "\xc3\x28", "\u00e4", "x\n", strings.Repeat("n", api.MaxName), strings.Repeat("\x80", api.MaxName), strings.Repeat(".", api.MaxName)}
}

func badNames() []string {
	return []string{"", ".", "..", "/", "\x00", "a/", "/a", "a/b", "a\x00", "\x00a", "a\x00b", "//", "./", "../a", strings.Repeat("n", api.MaxName+1), strings.Repeat("n", 70000), strings.Repeat("n", api.MaxName-1) + "/", strings.Repeat("n", api.MaxName-1) + "\x00"}
}

// extremes are ints far out.
func extremes() []int {
	return []int{math.MinInt, math.MinInt + 1, -1 << 32, -257, -256, -2, -1, 1 << 16, 1<<16 + 1, 1 << 32, 1<<32 + 1, 1 << 56, 1 << 62, math.MaxInt - 1, math.MaxInt}
}

// within are all ways to put a type within another one that may be if it may be, and if it is not too great nor too deep.
func within() map[string]func(t api.Type) api.Type {
	return map[string]func(t api.Type) api.Type{
		"the only field": func(t api.Type) api.Type { return compound(api.MaxElement, field("x", 0, t)) },
		"the first field": func(t api.Type) api.Type {
			return compound(api.MaxElement, field("x", 0, t), field("y", api.MaxElement-1, signed(1)))
		},
		"the last field": func(t api.Type) api.Type {
			return compound(api.MaxElement, field("w", 0, high(signed(8))), field("x", 8, t))
		},
		"a field in the middle": func(t api.Type) api.Type {
			return compound(api.MaxElement, field("w", 0, unsigned(3)), field("x", 5, t), field("y", api.MaxElement-4, float(4)))
		},
		"an array's Base":             func(t api.Type) api.Type { return array(t, 1) },
		"an array's Base, many times": func(t api.Type) api.Type { return array(t, 1, 2, 1) },
	}
}

// goodTypes are types that may be, all unlike.
func goodTypes() []api.Type {
	l := []api.Type{
		row(1), row(2), row(api.MaxFields), compound(1, field("a", 0, signed(1))), compound(api.MaxElement, field("a", 0, signed(1))),
		compound(api.MaxElement, field("a", api.MaxElement-1, signed(1))), compound(12, field("a", 0, unsigned(2)), field("b", 4, complexType(4))),
		compound(12, field("b", 0, unsigned(2)), field("a", 4, complexType(4))), compound(13, field("a", 0, unsigned(2)), field("b", 4, complexType(4))),
		compound(12, field("a", 1, unsigned(2)), field("b", 4, complexType(4))), compound(12, field("a", 0, unsigned(2)), field("b", 4, high(complexType(4)))),
		array(signed(1), 1), array(signed(1), 2, 3), array(signed(1), 3, 2), array(signed(1), 6), array(signed(1), 1, 6), array(signed(1), 6, 1), array(high(signed(1)), 6),
		array(signed(1), api.MaxElement), array(signed(1), 4, 4, 4, 4), array(signed(1), 1, 1, 1, 1), array(unsigned(8), 2, 16), array(high(complexType(8)), 16),
		enum(signed(1), values(0)...), enum(unsigned(1), values(0)...), enum(high(unsigned(1)), values(0)...), enum(unsigned(1), values(0, 255)...), enum(unsigned(1), values(255, 0)...),
		enum(signed(8), values(math.MinInt, math.MaxInt, -1, 0, 1)...), enum(unsigned(8), values(math.MaxInt, 0)...), enum(high(signed(3)), values(upTo(api.MaxFields)...)...),
		enum(signed(1), api.Member{Name: "x"}), enum(signed(1), api.Member{Name: "x", Value: 1}), enum(signed(1), api.Member{Name: "y", Value: 1}),
		array(array(array(high(float(8)), 2), 3), 4), array(array(high(float(8)), 6), 4), array(array(enum(signed(1), values(-1)...), 2), 3),
		compound(100, field("e", 3, enum(high(unsigned(2)), values(500, 2)...)), field("s", 10, array(compound(9, field("z", 0, complexType(4)), field("k", 8, unsigned(1))), 2, 5))),
		compound(2, field("a", 0, row(1)), field("b", 1, row(1))),
	}
	for w := 1; w <= 8; w++ {
		l = append(l, signed(w), high(signed(w)), unsigned(w), high(unsigned(w)))
	}
	for _, w := range []int{4, 8} {
		l = append(l, float(w), high(float(w)), complexType(w), high(complexType(w)))
	}
	for _, name := range goodNames() {
		l = append(l, compound(1, field(name, 0, unsigned(1))), enum(unsigned(1), api.Member{Name: name, Value: 200}))
	}
	return l
}

// badTypes are types that may not be, each for another reason.
func badTypes() []api.Type {
	l := []api.Type{
		{}, number(8, 1), number(-1, 4), signed(0), unsigned(9), float(3), float(5), complexType(16), signed(math.MinInt), compound(0), compound(4), row(api.MaxFields + 1),
		compound(3, field("a", 0, signed(4))), compound(8, field("a", 0, signed(4)), field("b", 3, signed(4))), compound(8, field("b", 4, signed(4)), field("a", 0, signed(4))),
		compound(8, field("a", -1, signed(4))), compound(8, field("a", math.MaxInt, signed(4))), compound(api.MaxElement+1, field("a", 0, signed(4))),
		compound(8, field("a", 0, signed(4)), field("a", 4, signed(4))), compound(8, field("a", 0, signed(9))), compound(8, field(".", 0, signed(1))),
		array(signed(1)), array(signed(1), 0), array(signed(1), -1), array(signed(1), 257), array(signed(2), 129), array(signed(1), 1, 1, 1, 1, 1), array(api.Type{}, 1), array(signed(1), 256, 256, 256, 256),
		{Class: api.ClassArray, Dims: []int{1}}, {Class: api.ClassArray, Dims: []int{1}, Base: []api.Type{signed(1), signed(1)}},
		enum(signed(1)), enum(signed(1), values(128)...), enum(signed(1), values(-129)...), enum(unsigned(1), values(256)...), enum(unsigned(8), values(-1)...), enum(float(4), values(1)...), enum(signed(9), values(1)...),
		enum(unsigned(1), values(1, 1)...), enum(unsigned(1), values(upTo(17)...)...), enum(unsigned(1), api.Member{Name: "x"}, api.Member{Name: "x", Value: 1}), enum(unsigned(1), api.Member{Name: "/"}),
		{Class: api.ClassEnum, Names: values(1)}, {Class: api.ClassEnum, Names: values(1), Base: []api.Type{signed(1), signed(1)}},
		array(array(array(array(signed(1), 1), 1), 1), 1), high(row(1)), high(array(signed(1), 1)), high(enum(signed(1), values(1)...)),
		{Class: api.ClassInt, Width: 1, Dims: []int{1}}, {Width: 1}, {Class: 9, Fields: []api.Field{{}}, Dims: []int{0}, Base: []api.Type{{}}, Names: []api.Member{{}}},
	}
	return l
}

// alike says whether two types have the same in all their fields.
func alike(a, b api.Type) bool {
	if a.Class != b.Class || a.Width != b.Width || a.Big != b.Big || len(a.Fields) != len(b.Fields) || len(a.Base) != len(b.Base) {
		return false
	}
	for i, f := range a.Fields {
		g := b.Fields[i]
		if f.Name != g.Name || f.At != g.At || !alike(f.Type, g.Type) {
			return false
		}
	}
	for i := range a.Base {
		if !alike(a.Base[i], b.Base[i]) {
			return false
		}
	}
	return slices.Equal(a.Dims, b.Dims) && slices.Equal(a.Names, b.Names)
}

// isZero says whether a type is its zero value.
func isZero(t api.Type) bool { return alike(t, api.Type{}) }

// wantSize asks for a size of Size, and for OK of Check.
func wantSize(t *testing.T, x api.Type, want int) {
	t.Helper()
	if n, e := datatype.Size(x); n != want || e != api.OK {
		t.Errorf("Size(%+v) = %d, %d; want %d", x, n, int(e), want)
	}
	if e := datatype.Check(x); e != api.OK {
		t.Errorf("Check(%+v) = %d", x, int(e))
	}
}

// wantNoType asks for ErrType of all calls that answer it.
func wantNoType(t *testing.T, x api.Type) {
	t.Helper()
	if e := datatype.Check(x); e != api.ErrType {
		t.Errorf("Check(%+v) = %d", x, int(e))
	}
	if n, e := datatype.Size(x); n != 0 || e != api.ErrType {
		t.Errorf("Size(%+v) = %d, %d", x, n, int(e))
	}
	if l, e := datatype.Places(x); len(l) != 0 || e != api.ErrType {
		t.Errorf("Places(%+v) = %v, %d", x, l, int(e))
	}
	for _, order := range []bool{false, true} {
		if y, e := datatype.Turn(x, order); !isZero(y) || e != api.ErrType {
			t.Errorf("Turn(%+v, %v) = %v, %d", x, order, y, int(e))
		}
	}
	if b, e := datatype.Bytes(x); len(b) != 0 || e != api.ErrType {
		t.Errorf("Bytes(%+v) = %x, %d", x, b, int(e))
	}
}

func wantPlaces(t *testing.T, x api.Type, want ...api.Place) {
	t.Helper()
	if l, e := datatype.Places(x); e != api.OK || !slices.Equal(l, want) {
		t.Errorf("Places(%+v) = %v, %d; want %v", x, l, int(e), want)
	}
}

// wantBytes asks for a type's bytes, and for the type of these.
func wantBytes(t *testing.T, x api.Type, want []byte) {
	t.Helper()
	b, e := datatype.Bytes(x)
	if e != api.OK || !bytes.Equal(b, want) {
		t.Errorf("Bytes(%+v) = %x, %d; want %x", x, b, int(e), want)
	}
	if y, e := datatype.Load(want); e != api.OK || !alike(x, y) {
		t.Errorf("Load(%x) = %+v, %d; want %+v", want, y, int(e), x)
	}
}

func wantNoLoad(t *testing.T, b []byte, why string) {
	t.Helper()
	if x, e := datatype.Load(b); !isZero(x) || e != api.ErrCorrupt {
		t.Errorf("%s: Load(%.200x) = %+v, %d; want %d", why, b, x, int(e), int(api.ErrCorrupt))
	}
}

// mustBytes tells the bytes of a type that may be.
func mustBytes(t *testing.T, x api.Type) []byte {
	t.Helper()
	b, e := datatype.Bytes(x)
	if e != api.OK {
		t.Fatalf("Bytes(%+v): %d", x, int(e))
	}
	return b
}
