package convert_test

import (
	"encoding/binary"
	"math"
	"math/big"
	"testing"

	"slabvault/api"
)

// baseOf tells what a number is taken as: an enum as its Base, a complex type as one of its parts.
func baseOf(t api.Type) api.Type {
	switch t.Class {
	case api.ClassEnum:
		return t.Base[0]
	case api.ClassComplex:
		t.Class = api.ClassFloat
	}
	return t
}

// wholes tells the integers of a type that matter: both ends of every range, one beyond, those next to 0, and those about each power of 2, about which floats begin to have gaps; each in the type's own bytes.
func wholes(t api.Type) [][]byte {
	least, most := ends(t)
	var l [][]byte
	add := func(n *big.Int) {
		if n.Cmp(least) >= 0 && n.Cmp(most) <= 0 {
			l = append(l, highest(t, wholeBytes(t, n)))
		}
	}
	for i := range 65 {
		for more := int64(-2); more <= 2; more++ {
			n := plus(power(i), more)
			add(n)
			add(new(big.Int).Neg(n))
		}
	}
	for _, n := range []int64{0, 100, -100, 300, -300, 16777217, -16777217, 123456789, 9007199254740993} {
		add(big.NewInt(n))
	}
	return l
}

// floatsOf tells the floats of a type that matter, in the type's own bytes: with either sign 0, the least ones, the greatest ones, infinite ones, such as are no number, of every make, and those about each power of 2 up to 2^65.
func floatsOf(t api.Type) [][]byte {
	fraction, exponent := uint(23), uint(8)
	if t.Width == 8 {
		fraction, exponent = 52, 11
	}
	infinite := uint64(1<<exponent-1) << fraction
	var l [][]byte
	add := func(bits uint64) {
		for _, sign := range []uint64{0, 1 << (fraction + exponent)} {
			b := binary.BigEndian.AppendUint64(nil, bits|sign)
			l = append(l, highest(t, b[8-t.Width:]))
		}
	}
	for _, bits := range []uint64{0, 1, 2, 1<<fraction - 1, 1 << fraction, infinite - 1, infinite, infinite - 1<<(fraction-1)} {
		add(bits)
	}
	for i := range fraction {
		add(infinite | 1<<i)
		add(infinite | (1<<(i+1) - 1))
		add(infinite | 1<<(fraction-1) | 1<<i)
	}
	for i := -2; i <= 65; i++ {
		for more := -0.75; more <= 0.75; more += 0.25 {
			f := math.Ldexp(1, i) + more
			bits := math.Float64bits(math.Abs(f))
			if t.Width == 4 {
				bits = uint64(math.Float32bits(float32(math.Abs(f))))
			}
			add(bits)
			add(bits + 1)
			if bits > 0 {
				add(bits - 1)
			}
		}
	}
	if t.Width == 8 {
		// Those about the ends of what a float of 4 bytes can be, about which it is rounded to 0 or is infinite.
		for _, f := range []float64{math.MaxFloat32, 1<<128 - 1<<103, 1 << 128, math.SmallestNonzeroFloat32, math.SmallestNonzeroFloat32 / 2, 1.5 * math.SmallestNonzeroFloat32, 0x1p-126, 1 + 0x1p-24, 1 + 0x3p-24, 1e300, 1e-300} {
			for more := range uint64(5) {
				add(math.Float64bits(f) + more - 2)
			}
		}
	}
	return l
}

// matters tells elements of a type of numbers, or first parts of a complex type.
func matters(t api.Type) [][]byte {
	if base := baseOf(t); base.Class != api.ClassFloat {
		return wholes(base)
	}
	return floatsOf(baseOf(t))
}

// P11.2: each type of numbers to each other one, also enums, with the edges of each.
func TestNumbersToNumbers(t *testing.T) {
	asked := 0
	for _, from := range numbers() {
		for _, to := range numbers() {
			for _, x := range matters(from) {
				wantOne(t, from, to, x, numberOf(baseOf(from), baseOf(to), x))
				asked++
			}
			if t.Failed() {
				t.FailNow()
			}
		}
	}
	if asked < 500000 {
		t.Errorf("only %d were asked", asked)
	}
}

// P11.2: all integers of one byte and of two to those of all widths, and to floats.
func TestSmallIntegers(t *testing.T) {
	for _, from := range []api.Type{signed(1), unsigned(1), signed(2), high(unsigned(2))} {
		var x []byte
		count := 1 << (8 * from.Width)
		for n := range count {
			x = append(x, highest(from, binary.BigEndian.AppendUint16(nil, uint16(n))[2-from.Width:])...)
		}
		for _, to := range append(integers(), floats()...) {
			for part := 0; part < len(x); part += api.MaxSelect * from.Width {
				some := x[part:min(len(x), part+api.MaxSelect*from.Width)]
				var want []byte
				for at := 0; at < len(some); at += from.Width {
					want = append(want, numberOf(from, baseOf(to), some[at:at+from.Width])...)
				}
				wantAll(t, from, to, some, len(some)/from.Width, want)
			}
		}
		if t.Failed() {
			t.FailNow()
		}
	}
}

// P11.2: numbers that are written out.
func TestNumbersByHand(t *testing.T) {
	for _, c := range []struct {
		from, to api.Type
		x, want  string
	}{
		{high(signed(2)), high(unsigned(1)), "\x01\x2c", "\xff"},
		{high(signed(2)), high(unsigned(1)), "\xff\xff", "\x00"},
		{high(signed(2)), high(signed(1)), "\xfe\xd4", "\x80"},
		{high(signed(2)), signed(1), "\x00\x80", "\x7f"},
		{high(signed(2)), signed(4), "\xff\xfe", "\xfe\xff\xff\xff"},
		{unsigned(2), high(signed(4)), "\xfe\xff", "\x00\x00\xff\xfe"},
		{high(unsigned(8)), high(signed(8)), "\x80\x00\x00\x00\x00\x00\x00\x00", "\x7f\xff\xff\xff\xff\xff\xff\xff"},
		{high(signed(8)), high(unsigned(8)), "\x80\x00\x00\x00\x00\x00\x00\x00", "\x00\x00\x00\x00\x00\x00\x00\x00"},
		{high(signed(3)), high(unsigned(3)), "\x80\x00\x00", "\x00\x00\x00"},
		{high(unsigned(3)), high(signed(3)), "\x80\x00\x00", "\x7f\xff\xff"},
		{high(signed(4)), high(float(4)), "\x01\x00\x00\x01", "\x4b\x80\x00\x00"},
		{high(signed(4)), high(float(8)), "\xff\xff\xff\xff", "\xbf\xf0\x00\x00\x00\x00\x00\x00"},
		{high(unsigned(4)), high(float(4)), "\xff\xff\xff\xff", "\x4f\x80\x00\x00"},
		{unsigned(1), float(8), "\x00", "\x00\x00\x00\x00\x00\x00\x00\x00"},
		{high(float(8)), signed(1), "\xbf\xfe\x66\x66\x66\x66\x66\x66", "\xff"},                                                // -1.9
		{high(float(8)), high(unsigned(2)), "\xbf\xfe\x66\x66\x66\x66\x66\x66", "\x00\x00"},                                    // -1.9
		{high(float(8)), high(signed(8)), "\x7f\xf0\x00\x00\x00\x00\x00\x00", "\x7f\xff\xff\xff\xff\xff\xff\xff"},              // infinite
		{high(float(4)), high(signed(3)), "\xff\x80\x00\x00", "\x80\x00\x00"},                                                  // infinite, below 0
		{high(float(4)), high(signed(3)), "\x80\x00\x00\x00", "\x00\x00\x00"},                                                  // -0
		{high(float(4)), high(float(8)), "\x80\x00\x00\x00", "\x80\x00\x00\x00\x00\x00\x00\x00"},                               // -0
		{high(float(8)), high(float(4)), "\x80\x00\x00\x00\x00\x00\x00\x00", "\x80\x00\x00\x00"},                               // -0
		{high(float(8)), float(4), "\x7e\x37\xe4\x3c\x88\x00\x75\x9c", "\x00\x00\x80\x7f"},                                     // 1e300
		{float(4), float(8), "\x01\x00\x80\x7f", "\x00\x00\x00\x00\x00\x00\xf8\x7f"},                                           // no number
		{float(4), high(float(4)), "\x01\x00\x80\x7f", "\x7f\x80\x00\x01"},                                                     // no number
		{high(float(4)), high(float(4)), "\x7f\x80\x00\x01", "\x7f\x80\x00\x01"},                                               // no number
		{high(float(4)), signed(4), "\x7f\x80\x00\x01", "\x00\x00\x00\x00"},                                                    // no number
		{high(float(8)), high(float(4)), "\xff\xf0\x00\x00\x00\x00\x00\x01", "\x7f\xc0\x00\x00"},                               // no number
		{high(float(8)), float(8), "\xff\xf0\x00\x00\x00\x00\x00\x01", "\x01\x00\x00\x00\x00\x00\xf0\xff"},                     // no number
		{high(float(8)), high(complexType(4)), "\xff\xf0\x00\x00\x00\x00\x00\x01", "\x7f\xc0\x00\x00\x00\x00\x00\x00"},         // no number
		{high(complexType(8)), high(float(8)), "\x40\x00\x00\x00\x00\x00\x00\x00garbage.", "\x40\x00\x00\x00\x00\x00\x00\x00"}, // 2, and what is not looked at
	} {
		wantText(t, c.from, c.to, c.x, c.want)
	}
}
