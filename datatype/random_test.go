package datatype_test

import (
	"slices"
	"strconv"
	"testing"

	"slabvault/api"
	"slabvault/datatype"
)

// dice tells numbers that are hard to foretell, and always the same ones.
type dice uint64

func (d *dice) below(n int) int {
	*d = *d*6364136223846793005 + 1442695040888963407
	return int(uint64(*d)>>33) % n
}

// integer tells an integer type of at most so many bytes.
func (d *dice) integer(room int) api.Type {
	return api.Type{Class: api.Class(1 + d.below(2)), Width: 1 + d.below(min(8, room)), Big: d.below(2) == 1}
}

// flat tells a type without a part, of at most so many bytes.
func (d *dice) flat(room int) api.Type {
	width := 4 << d.below(2)
	switch c := api.Class(1 + d.below(4)); {
	case c == api.ClassFloat && width <= room, c == api.ClassComplex && 2*width <= room:
		return api.Type{Class: c, Width: width, Big: d.below(2) == 1}
	}
	return d.integer(room)
}

// good tells a type that may be, of at most so many bytes, and at most so deep.
func (d *dice) good(room, depth int) api.Type {
	if depth == 1 || d.below(4) == 0 {
		return d.flat(room)
	}
	switch d.below(3) {
	case 0:
		return d.compound(room, depth)
	case 1:
		x := array(d.good(1+d.below(room), depth-1))
		for left := room / sizeOf(x.Base[0]); len(x.Dims) == 0 || len(x.Dims) < api.MaxRank && d.below(2) == 1; {
			n := 1 + d.below(min(left, 5))
			x.Dims = append(x.Dims, n)
			left /= n
		}
		return x
	}
	x := enum(d.integer(room))
	least, most := ends(x.Base[0])
	for i := range 1 + d.below(4) {
		x.Names = append(x.Names, api.Member{Name: "m" + strconv.Itoa(i), Value: []int{i, i, least + i, most - i}[d.below(4)]})
	}
	for !mayBe(x) { // Two values may have come out alike.
		x.Names = x.Names[1:]
	}
	return x
}

// compound tells one that may be.
func (d *dice) compound(room, depth int) api.Type {
	x := compound(1 + d.below(room))
	for end := 0; end < x.Width && len(x.Fields) < 5; {
		at := end + d.below(2)*d.below(x.Width-end)
		f := field("f"+strconv.Itoa(len(x.Fields)), at, d.good(1+d.below(x.Width-at), depth-1))
		x.Fields = append(x.Fields, f)
		end = at + sizeOf(f.Type)
	}
	return x
}

// spoil changes one thing of a type, somewhere within it.
func (d *dice) spoil(x *api.Type) {
	if parts := len(x.Fields) + len(x.Base); parts > 0 && d.below(3) > 0 {
		if i := d.below(parts); i < len(x.Fields) {
			d.spoil(&x.Fields[i].Type)
		} else {
			d.spoil(&x.Base[i-len(x.Fields)])
		}
		return
	}
	near := []int{-1, 1, 1, 2, 4, 252, 1 << 8, 1 << 62}[d.below(8)]
	switch d.below(12) {
	case 0:
		x.Class = api.Class(d.below(9))
	case 1, 2:
		x.Width += near
	case 3:
		x.Big = !x.Big
	case 4:
		x.Dims = append(x.Dims, 1+d.below(3))
	case 5:
		x.Base = append(x.Base, d.integer(8))
	case 6:
		x.Base = nil
	case 7:
		x.Names = append(x.Names, api.Member{Name: []string{"m0", "", "x", "/"}[d.below(4)], Value: d.below(1000) - 500})
	default:
		d.spoilParts(x, near)
	}
}

func (d *dice) spoilParts(x *api.Type, near int) {
	switch {
	case len(x.Fields) > 0:
		i := d.below(len(x.Fields))
		switch d.below(4) {
		case 0:
			x.Fields[i].Name = x.Fields[d.below(len(x.Fields))].Name
		case 1, 2:
			x.Fields[i].At += near
		case 3:
			x.Fields = slices.Delete(x.Fields, i, i+1)
		}
	case len(x.Dims) > 0:
		x.Dims[d.below(len(x.Dims))] += near
	case len(x.Names) > 0:
		m := &x.Names[d.below(len(x.Names))]
		switch d.below(3) {
		case 0:
			m.Name = "m" + strconv.Itoa(d.below(4))
		case 1:
			m.Value += near
		case 2:
			m.Value = x.Names[d.below(len(x.Names))].Value
		}
	}
}

// P9.1 to P9.7: types of all sorts, good ones and others, are as the model says.
func TestTypesAreTheirModel(t *testing.T) {
	good, bad, deep := 0, 0, 0
	d := dice(9)
	for range 30000 {
		x := copyOf(d.good(1+d.below(api.MaxElement), 1+d.below(api.MaxDepth)), d.below(2) == 1)
		was := copyOf(x, false)
		for range d.below(3) {
			d.spoil(&x)
		}
		if same := alike(x, was); datatype.Same(x, was) != same || datatype.Same(was, x) != same {
			t.Fatalf("Same(%+v, %+v) = %v", x, was, !same)
		}
		if swapped := mayBe(x) && alike(turned(x, true), turned(was, true)); datatype.Swapped(x, was) != swapped || datatype.Swapped(was, x) != swapped {
			t.Fatalf("Swapped(%+v, %+v) = %v", x, was, !swapped)
		}
		if !mayBe(x) {
			bad++
			wantNoType(t, x)
			continue
		}
		good++
		deep += depthOf(x) / api.MaxDepth
		wantSize(t, x, sizeOf(x))
		wantPlaces(t, x, placesOf(x, 0)...)
		wantApart(t, x)
		wantTurns(t, x)
		wantBytes(t, x, bytesOf(x))
		if t.Failed() {
			t.FailNow()
		}
	}
	if good < 10000 || bad < 5000 || deep < 1000 {
		t.Errorf("%d types that may be, %d of them as deep as may be, and %d others", good, deep, bad)
	}
}

// spoilBytes changes some bytes here and there.
func (d *dice) spoilBytes(b []byte) []byte {
	b = slices.Clone(b)
	for range d.below(3) {
		at := d.below(len(b))
		switch d.below(6) {
		case 0:
			b[at] = byte(d.below(256))
		case 1:
			b[at] = byte(d.below(9))
		case 2:
			b[at] ^= 1 << d.below(8)
		case 3:
			b = slices.Insert(b, at, byte(d.below(9)))
		case 4:
			b = append(b, byte(d.below(9)))
		case 5:
			if b = slices.Delete(b, at, at+1); len(b) == 0 {
				return b
			}
		}
	}
	return b
}

// P9.4: bytes of all sorts are read as the model reads them.
func TestLoadIsItsModel(t *testing.T) {
	good, bad := 0, 0
	d := dice(90)
	for range 60000 {
		b := d.spoilBytes(bytesOf(d.good(1+d.below(60), 1+d.below(api.MaxDepth))))
		x, is := typeOf(b)
		if !is {
			bad++
			wantNoLoad(t, b, "bytes of no type")
			continue
		}
		good++
		wantBytes(t, x, b)
		if t.Failed() {
			t.FailNow()
		}
	}
	if good < 10000 || bad < 10000 {
		t.Errorf("%d bytes of types, and %d others", good, bad)
	}
}
