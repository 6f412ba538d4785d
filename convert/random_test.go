package convert_test

import (
	"slices"
	"strconv"
	"testing"

	"slabvault/api"
)

// flat tells a type of a number, or a complex type, of at most so many bytes.
func (d *dice) flat(room int) api.Type {
	width, order := 4<<d.below(2), d.below(2) == 1
	switch c := api.Class(1 + d.below(4)); {
	case c == api.ClassFloat && width <= room, c == api.ClassComplex && 2*width <= room:
		return api.Type{Class: c, Width: width, Big: order}
	}
	return api.Type{Class: api.Class(1 + d.below(2)), Width: 1 + d.below(min(8, room)), Big: order}
}

// good tells a type that may be, of at most so many bytes, and at most so deep.
func (d *dice) good(room, depth int) api.Type {
	kind := d.below(4)
	switch {
	case depth > 1 && kind == 0:
		return d.compound(room, depth)
	case depth > 1 && kind == 1:
		base := d.good(1+d.below(room), depth-1)
		return array(base, d.dims(room/sizeOf(base))...)
	}
	x := d.flat(room)
	if depth == 1 || x.Class > api.ClassUint || kind == 2 {
		return x
	}
	return enum(x, d.below(50), 50+d.below(50))
}

// dims tells those of an array of at most so many elements.
func (d *dice) dims(most int) []int {
	var l []int
	for len(l) == 0 || len(l) < api.MaxRank && d.below(2) == 1 {
		n := 1 + d.below(min(most, 4))
		l = append(l, n)
		most /= n
	}
	return l
}

// compound tells one, the names of whose fields are few, so that others have some of them too.
func (d *dice) compound(room, depth int) api.Type {
	x := compound(1 + d.below(room))
	names := []string{"a", "b", "c", "d", "e", "f", "g"}
	for end := 0; end < x.Width && len(names) > 2; {
		at := end + d.below(2)*d.below(x.Width-end)
		i := d.below(len(names))
		f := field(names[i], at, d.good(1+d.below(x.Width-at), depth-1))
		names = slices.Delete(names, i, i+1)
		x.Fields = append(x.Fields, f)
		end = at + sizeOf(f.Type)
	}
	return x
}

// like tells a type that x may well become: other numbers, other places and orders of fields, some fields more or less, now and then something quite different.
func (d *dice) like(x api.Type) api.Type {
	if d.below(40) == 0 {
		return d.good(16, 2)
	}
	switch x.Class {
	case api.ClassCompound:
		return d.likeCompound(x)
	case api.ClassArray:
		y := array(d.like(x.Base[0]), slices.Clone(x.Dims)...)
		if d.below(30) == 0 && len(y.Dims) < api.MaxRank {
			y.Dims = append(y.Dims, 1)
		}
		return y
	}
	return d.good(16, 1)
}

func (d *dice) likeCompound(x api.Type) api.Type {
	y := compound(0)
	fields := slices.Clone(x.Fields)
	for i := range fields {
		j := d.below(i + 1)
		fields[i], fields[j] = fields[j], fields[i]
	}
	if d.below(2) == 0 {
		fields = append(fields, field("new"+strconv.Itoa(d.below(3)), 0, d.good(8, 1)))
	}
	for _, f := range fields {
		if d.below(5) == 0 && len(y.Fields) > 0 {
			continue
		}
		f.At, f.Type = y.Width+d.below(2)*d.below(3), d.like(f.Type)
		y.Fields = append(y.Fields, f)
		y.Width = f.At + sizeOf(f.Type)
	}
	y.Width += d.below(3)
	return y
}

// P11.1 to P11.6: types and elements of all sorts are as the model says.
func TestTypesAreTheirModel(t *testing.T) {
	d := dice(111)
	can, cannot, compounds := 0, 0, 0
	for range 30000 {
		from := d.good(1+d.below(100), 1+d.below(api.MaxDepth))
		to := d.like(from)
		if sizeOf(to) > api.MaxElement || depthOf(to) > api.MaxDepth {
			wantCan(t, from, to, api.ErrType, "too great or too deep")
			continue
		}
		if !becomes(from, to) {
			wantCan(t, from, to, api.ErrConvert, "they do not become one another")
			cannot++
			continue
		}
		can++
		if from.Class == api.ClassCompound {
			compounds++
		}
		n := d.below(4)
		x := d.bytes(n * sizeOf(from))
		wantAll(t, from, to, x, n, comes(from, to, x))
		one := d.bytes(sizeOf(from))
		wantOne(t, from, to, one, comes(from, to, one))
		wantNoOne(t, from, to, one[1:], api.ErrArg)
		wantNoAll(t, from, to, one, 2, api.ErrArg)
		if t.Failed() {
			t.FailNow()
		}
	}
	if can < 15000 || cannot < 300 || compounds < 2000 {
		t.Errorf("%d pairs that become one another, %d of them compounds, and %d others", can, compounds, cannot)
	}
}

// depthOf tells how deep a type is.
func depthOf(x api.Type) int {
	depth := 0
	for _, f := range x.Fields {
		depth = max(depth, depthOf(f.Type))
	}
	for _, base := range x.Base {
		depth = max(depth, depthOf(base))
	}
	return depth + 1
}
