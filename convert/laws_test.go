package convert_test

import (
	"bytes"
	"fmt"
	"slices"
	"testing"

	"slabvault/api"
	"slabvault/convert"
)

// partsOf tells where the numbers of a type lie.
func partsOf(t api.Type) []node {
	return slices.DeleteFunc(nodes(t, "", 0), func(n node) bool { return n.kind != kindPart })
}

// bare tells an element without the bytes that belong to no number.
func bare(t api.Type, x []byte) []byte {
	out := make([]byte, len(x))
	for _, n := range partsOf(t) {
		copy(out[n.at:n.at+n.t.Width], x[n.at:])
	}
	return out
}

// reversed tells an element, each number of which that one of the two types has in another order of bytes than the other one is turned about.
func reversed(from, to api.Type, x []byte) []byte {
	out, others := bare(from, x), partsOf(to)
	for i, n := range partsOf(from) {
		if n.t.Big != others[i].t.Big {
			slices.Reverse(out[n.at : n.at+n.t.Width])
		}
	}
	return out
}

// turned tells a type, each number of which has the order of bytes that it is told by flip.
func turned(t api.Type, flip func(isBig bool) bool) api.Type {
	if t.Class <= api.ClassComplex {
		t.Big = flip(t.Big)
	}
	t.Fields, t.Base = slices.Clone(t.Fields), slices.Clone(t.Base)
	for i := range t.Fields {
		t.Fields[i].Type = turned(t.Fields[i].Type, flip)
	}
	for i := range t.Base {
		t.Base[i] = turned(t.Base[i], flip)
	}
	return t
}

// turns tells a type in other orders of bytes: all one, all the other, each the other, and mixed.
func (d *dice) turns(t api.Type) []api.Type {
	var l []api.Type
	for _, flip := range []func(bool) bool{
		func(isBig bool) bool { return isBig }, func(isBig bool) bool { return !isBig }, func(bool) bool { return true }, func(bool) bool { return false },
		func(bool) bool { return d.below(2) == 1 }, func(bool) bool { return d.below(2) == 1 },
	} {
		l = append(l, turned(t, flip))
	}
	return l
}

// wantBits asks that between two types that are alike but for the order of bytes all numbers keep their bits, and that there and back is the same.
func wantBits(t *testing.T, from, to api.Type, x []byte) {
	t.Helper()
	wantOne(t, from, to, x, reversed(from, to, x))
	wantOne(t, to, from, reversed(from, to, x), bare(from, x))
}

// P11.4: types of all sorts and their turns, with elements of all sorts.
func TestBitsAreKept(t *testing.T) {
	d := dice(114)
	all := goodTypes()
	for range 500 {
		all = append(all, d.good(1+d.below(api.MaxElement), 1+d.below(api.MaxDepth)))
	}
	for _, from := range all {
		for _, to := range d.turns(from) {
			for range 4 {
				wantBits(t, from, to, d.bytes(sizeOf(from)))
			}
			wantBits(t, from, to, make([]byte, sizeOf(from)))
			wantBits(t, from, to, bytes.Repeat([]byte{0xff}, sizeOf(from)))
		}
		if t.Failed() {
			t.FailNow()
		}
	}
}

// P11.4: each float that matters, such as are no number too, alone and within others.
func TestBitsOfFloatsAreKept(t *testing.T) {
	for _, from := range floats() {
		z := number(api.ClassComplex, from.Width)
		z.Big = from.Big
		for _, to := range floats() {
			if to.Width != from.Width {
				continue
			}
			other := number(api.ClassComplex, to.Width)
			other.Big = to.Big
			for _, x := range floatsOf(from) {
				wantBits(t, from, to, x)
				wantBits(t, z, other, slices.Concat(x, x))
				wantBits(t, array(z, 2), array(other, 2), slices.Concat(x, x, x, x))
				wantBits(t, compound(20, field("a", 3, from)), compound(20, field("a", 3, to)), slices.Concat([]byte{1, 2, 3}, x, make([]byte, 17-len(x))))
				// By way of a complex type the first part has its bits too.
				wantOne(t, from, other, x, slices.Concat(reversed(from, to, x), make([]byte, to.Width)))
				wantOne(t, z, to, slices.Concat(x, x), reversed(from, to, x))
			}
		}
		if t.Failed() {
			t.FailNow()
		}
	}
}

// isNaN says whether a float of a type is no number.
func isNaN(t api.Type, x []byte) bool {
	_, is := floatOf(highest(t, x))
	return is
}

// plainNaN tells the plain NaN of a type.
func plainNaN(t api.Type) []byte {
	if t.Width == 4 {
		return highest(t, []byte{0x7f, 0xc0, 0, 0})
	}
	return highest(t, []byte{0x7f, 0xf8, 0, 0, 0, 0, 0, 0})
}

// P11.6: floats that are no number, of every make, alone and as a part, a field and an element.
func TestNoNumbers(t *testing.T) {
	asked := 0
	for _, from := range floats() {
		z := number(api.ClassComplex, from.Width)
		z.Big = from.Big
		for _, x := range floatsOf(from) {
			if !isNaN(from, x) {
				continue
			}
			asked++
			for _, to := range append(integers(), enums()...) {
				want := make([]byte, sizeOf(to)) // NaNToInt is 0.
				wantNaN(t, from, to, x, want)
				wantOne(t, z, to, slices.Concat(x, []byte("12345678")[:from.Width]), want)
			}
			for _, to := range floats() {
				if to.Width == from.Width {
					continue
				}
				wantNaN(t, from, to, x, plainNaN(to))
				w := number(api.ClassComplex, to.Width)
				w.Big = to.Big
				wantOne(t, from, w, x, slices.Concat(plainNaN(to), make([]byte, to.Width)))
				wantOne(t, z, w, slices.Concat(x, x), slices.Concat(plainNaN(to), plainNaN(to)))
				wantOne(t, z, w, slices.Concat(make([]byte, from.Width), x), slices.Concat(make([]byte, to.Width), plainNaN(to)))
			}
		}
		if t.Failed() {
			t.FailNow()
		}
	}
	if asked < 400 || api.NaNToInt != 0 {
		t.Errorf("only %d were asked", asked)
	}
}

// wantNaN asks for what comes of a float, alone, as a field and as an element.
func wantNaN(t *testing.T, from, to api.Type, x, want []byte) {
	t.Helper()
	wantOne(t, from, to, x, want)
	wantOne(t, array(from, 2), array(to, 2), slices.Concat(x, x), slices.Concat(want, want))
	wantOne(t, compound(12, field("a", 2, from)), compound(sizeOf(to)+1, field("a", 1, to)), slices.Concat([]byte{1, 2}, x, make([]byte, 10-len(x))), slices.Concat([]byte{0}, want))
}

// P11.7: integers become such as are wider and have a sign, and come back.
func TestWiderIntegersComeBack(t *testing.T) {
	d := dice(117)
	asked := 0
	for _, from := range append(integers(), enums()...) {
		for _, to := range append(integers(), enums()...) {
			if baseOf(to).Class != api.ClassInt || sizeOf(to) <= sizeOf(from) {
				continue
			}
			all := slices.Concat(wholes(baseOf(from))...)
			all = slices.Concat(all, d.bytes(100*sizeOf(from)))
			n := len(all) / sizeOf(from)
			wide, e := convert.All(from, to, all, n)
			if e != api.OK || len(wide) != n*sizeOf(to) {
				t.Fatalf("All(%+v, %+v) tells %d bytes, %d", from, to, len(wide), int(e))
			}
			wantAll(t, to, from, wide, n, all)
			for i := range n {
				x, y := all[i*sizeOf(from):(i+1)*sizeOf(from)], wide[i*sizeOf(to):(i+1)*sizeOf(to)]
				if wholeOf(baseOf(from), highest(baseOf(from), x)).Cmp(wholeOf(baseOf(to), highest(baseOf(to), y))) != 0 {
					t.Fatalf("%x of %+v is %x of %+v", x, from, y, to)
				}
			}
			wantCan(t, to, from, api.OK, fmt.Sprintf("%+v to %+v", to, from))
			asked++
		}
	}
	if asked != 28*8*4 { // Pairs of widths, with either sign, either order and either Class.
		t.Errorf("%d pairs were asked", asked)
	}
}

// P11.7: one that is as wide, or has no sign, need not bear it: the ends of what it bears are told.
func TestIntegersThatAreNotBorne(t *testing.T) {
	for w := 1; w <= 8; w++ {
		all, least := bytes.Repeat([]byte{0xff}, w), append([]byte{0x80}, make([]byte, w-1)...)
		most := append([]byte{0x7f}, all[1:]...)
		wantOne(t, high(unsigned(w)), high(signed(w)), all, most)
		wantOne(t, high(unsigned(w)), high(signed(w)), least, most)
		wantOne(t, high(signed(w)), high(unsigned(w)), all, make([]byte, w))
		wantOne(t, high(signed(w)), high(unsigned(w)), least, make([]byte, w))
		wantOne(t, high(signed(w)), high(unsigned(w)), most, most)
		for more := w + 1; more <= 8; more++ {
			wantOne(t, high(signed(w)), high(unsigned(more)), least, make([]byte, more))
			beyond := append(make([]byte, more-w), least...) // One more than the greatest, and one less than the least.
			wantOne(t, high(signed(more)), high(signed(w)), beyond, most)
			under := append(bytes.Repeat([]byte{0xff}, more-w), most...)
			wantOne(t, high(signed(more)), high(signed(w)), under, least)
			over := make([]byte, more)
			over[more-w-1] = 1
			wantOne(t, high(unsigned(more)), high(unsigned(w)), over, all)
			wantOne(t, high(signed(more)), high(unsigned(w)), over, all)
		}
	}
}
