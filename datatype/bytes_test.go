package datatype_test

import (
	"bytes"
	"math"
	"slices"
	"strings"
	"testing"

	"slabvault/api"
	"slabvault/datatype"
)

// P9.4: bytes that are written out.
func TestBytesByHand(t *testing.T) {
	wantBytes(t, signed(3), []byte{1, 3, 0})
	wantBytes(t, high(unsigned(8)), []byte{2, 8, 1})
	wantBytes(t, float(4), []byte{3, 4, 0})
	wantBytes(t, high(complexType(8)), []byte{4, 8, 1})
	wantBytes(t, compound(12, field("a", 0, unsigned(2)), field("bc", 4, complexType(4))), []byte("\x05\x00\x0c\x02"+"\x00\x00\x00\x01a\x00\x00\x02\x02\x00"+"\x00\x00\x00\x02bc\x00\x04\x04\x04\x00"))
	wantBytes(t, compound(256, field("z", 255, signed(1))), []byte("\x05\x01\x00\x01\x00\x00\x00\x01z\x00\xff\x01\x01\x00"))
	wantBytes(t, array(signed(1), 2, 3), []byte{6, 2, 0, 2, 0, 3, 1, 1, 0})
	wantBytes(t, array(high(signed(1)), 256), []byte{6, 1, 1, 0, 1, 1, 1})
	wantBytes(t, array(array(float(4), 2), 1, 1, 1, 3), []byte{6, 4, 0, 1, 0, 1, 0, 1, 0, 3, 6, 1, 0, 2, 3, 4, 0})
	wantBytes(t, enum(high(signed(2)), api.Member{Name: "x", Value: -2}, api.Member{Name: "y", Value: 258}), []byte("\x07\x01\x02\x01\x02"+"\x00\x00\x00\x01x\xff\xff\xff\xff\xff\xff\xff\xfe"+"\x00\x00\x00\x01y\x00\x00\x00\x00\x00\x00\x01\x02"))
	wantBytes(t, enum(signed(8), api.Member{Name: "\xff", Value: math.MinInt}), []byte("\x07\x01\x08\x00\x01\x00\x00\x00\x01\xff\x80\x00\x00\x00\x00\x00\x00\x00"))
	wantBytes(t, enum(unsigned(8), api.Member{Name: "m", Value: math.MaxInt}), []byte("\x07\x02\x08\x00\x01\x00\x00\x00\x01m\x7f\xff\xff\xff\xff\xff\xff\xff"))
}

// P9.4, P9.5: Load of Bytes is the type, and unlike types have unlike bytes.
func TestBytesAndBack(t *testing.T) {
	var all []api.Type
	for _, x := range goodTypes() {
		all = append(all, x)
		for _, put := range within() {
			if y := put(x); mayBe(y) {
				all = append(all, y)
			}
		}
	}
	var told [][]byte
	for _, x := range all {
		wantBytes(t, x, bytesOf(x))
		told = append(told, mustBytes(t, x))
	}
	for i, b := range told {
		for j := range i {
			if bytes.Equal(b, told[j]) != alike(all[i], all[j]) {
				t.Errorf("%+v and %+v have the bytes %x and %x", all[i], all[j], b, told[j])
			}
		}
	}
	for _, x := range goodTypes() {
		for _, y := range unlike(x) {
			if mayBe(y) && bytes.Equal(mustBytes(t, x), mustBytes(t, y)) {
				t.Errorf("%+v and %+v have the same bytes", x, y)
			}
		}
	}
}

// P9.4: bytes that end early, or go on.
func TestLoadOfTooFewAndTooMany(t *testing.T) {
	wantNoLoad(t, nil, "no bytes")
	for _, x := range goodTypes() {
		b := mustBytes(t, x)
		for i := range b {
			wantNoLoad(t, b[:i:i], "cut")
			wantNoLoad(t, b[:i], "cut, with the rest behind the length")
		}
		for _, more := range [][]byte{{0}, {1}, {255}, {1, 1, 0}, b, make([]byte, 1000)} {
			wantNoLoad(t, slices.Concat(b, more), "longer")
		}
	}
}

// P9.4: bytes that bear what may not be: a type laid down as if it might be.
func TestLoadOfTypesThatMayNotBe(t *testing.T) {
	for _, bad := range badTypes() {
		if len(bad.Base) == 0 && (bad.Class == api.ClassArray || bad.Class == api.ClassEnum) {
			continue // There are no bytes that say so.
		}
		b := bytesOf(bad)
		if x, is := typeOf(b); is {
			if got, e := datatype.Load(b); e != api.OK || !alike(x, got) {
				t.Errorf("Load(%x) = %+v, %d", b, got, int(e)) // What makes it bad is not laid down.
			}
			continue
		}
		wantNoLoad(t, b, "a bad type")
		wantNoLoad(t, bytesOf(array(bad, 1)), "an array of a bad type")
		wantNoLoad(t, bytesOf(compound(api.MaxElement, field("a", 0, bad))), "a compound of a bad type")
		wantNoLoad(t, bytesOf(enum(bad, values(1)...)), "an enum of a bad type")
	}
}

// P9.4: each byte of a Class, a Width and Big.
func TestLoadOfNumbers(t *testing.T) {
	for class := range 256 {
		for width := range 256 {
			for _, order := range []int{0, 1, 2, 3, 128, 254, 255} {
				b := []byte{byte(class), byte(width), byte(order)}
				isWidth := width >= 1 && width <= 8 && class <= 2 || (width == 4 || width == 8) && class <= 4
				if class >= 1 && isWidth && order <= 1 {
					wantBytes(t, api.Type{Class: api.Class(class), Width: width, Big: order == 1}, b)
				} else {
					wantNoLoad(t, b, "no number")
				}
			}
		}
	}
}

// P9.4: counts of parts.
func TestLoadOfCounts(t *testing.T) {
	for count := range 256 {
		members := enum(unsigned(2), values(upTo(count)...)...)
		dims := array(unsigned(1), slices.Repeat([]int{1}, count)...)
		for _, x := range []api.Type{row(count), members, dims} {
			if count >= 1 && count <= api.MaxFields && len(x.Dims) <= api.MaxRank {
				wantBytes(t, x, bytesOf(x))
			} else {
				wantNoLoad(t, bytesOf(x), "a count that may not be")
			}
		}
	}
	for _, x := range []api.Type{row(3), array(unsigned(1), 1, 1), enum(unsigned(1), values(1, 2)...)} {
		b, at := bytesOf(x), 1
		switch x.Class {
		case api.ClassCompound:
			at = 3
		case api.ClassEnum:
			at = 4
		}
		for count := range 256 {
			c := bytes.Clone(b)
			c[at] = byte(count)
			if !bytes.Equal(b, c) {
				wantNoLoad(t, c, "another count")
			}
		}
	}
}

// P9.4: numbers of two bytes and of eight.
func TestLoadOfNumbersThatMayNotBe(t *testing.T) {
	for n := range 1 << 16 {
		for _, x := range []api.Type{compound(n, field("a", 0, signed(1))), compound(api.MaxElement, field("a", n, signed(1))), array(signed(1), n), array(signed(1), 1, n)} {
			b := bytesOf(x)
			y, e := datatype.Load(b)
			if good := mayBe(x); good != (e == api.OK) || good && !alike(x, y) || !good && (e != api.ErrCorrupt || !isZero(y)) {
				t.Fatalf("Load(%x) = %+v, %d", b, y, int(e))
			}
		}
	}
	for w := 1; w <= 8; w++ {
		for _, base := range []api.Type{signed(w), unsigned(w)} {
			least, most := ends(base)
			for _, v := range []int{least, most, least - 1, most + 1, 0, -1, 1, math.MinInt, math.MaxInt, 128, 255, 256, -128, -129} {
				if x := enum(base, values(v)...); mayBe(x) {
					wantBytes(t, x, bytesOf(x))
				} else {
					wantNoLoad(t, bytesOf(x), "a value that may not be")
				}
			}
		}
	}
}

// P9.4: names.
func TestLoadOfNames(t *testing.T) {
	of := func(name string) []api.Type {
		return []api.Type{
			compound(2, field("x", 0, signed(1)), field(name, 1, signed(1))), enum(signed(1), append(values(1, 2), api.Member{Name: name})...),
		}
	}
	for _, name := range goodNames() {
		for _, x := range of(name) {
			wantBytes(t, x, bytesOf(x))
		}
	}
	for _, name := range append(badNames(), "x", strings.Repeat("n", api.MaxBlob), strings.Repeat("n", api.MaxBlob+1)) {
		for _, x := range of(name) {
			if !mayBe(x) {
				wantNoLoad(t, bytesOf(x), "a name that may not be")
			}
		}
	}
	for _, size := range []string{"\x00\x00\x00\x02", "\x00\x00\x00\x00", "\x00\x01\x00\x00", "\x00\x01\x00\x01", "\x7f\xff\xff\xff", "\x80\x00\x00\x01", "\xff\xff\xff\xff"} {
		wantNoLoad(t, []byte("\x05\x00\x02\x01"+size+"a\x00\x00\x01\x01\x00"), "a name of another size")
		wantNoLoad(t, []byte("\x07\x01\x01\x00\x01"+size+"a\x00\x00\x00\x00\x00\x00\x00\x01"), "a name of another size")
	}
}

// P9.4: bytes of types that are too deep, at the edge and far beyond it.
func TestLoadOfDeepTypes(t *testing.T) {
	for times := range 8 {
		for _, x := range nested(signed(1), times) {
			if times < api.MaxDepth {
				wantBytes(t, x, bytesOf(x))
			} else {
				wantNoLoad(t, bytesOf(x), "too deep")
			}
		}
	}
	const times = 1 << 20
	wantNoLoad(t, slices.Concat(bytes.Repeat([]byte{6, 1, 0, 1}, times), []byte{1, 1, 0}), "arrays within one another")
	wantNoLoad(t, slices.Concat(bytes.Repeat([]byte("\x05\x00\x01\x01\x00\x00\x00\x01a\x00\x00"), times), []byte{1, 1, 0}), "compounds within one another")
	wantNoLoad(t, slices.Concat(bytes.Repeat([]byte{7}, times), []byte{1, 1, 0}), "enums within one another")
}
