package number_test

import (
	"math"
	"math/big"
	"testing"

	"slabvault/api"
	"slabvault/number"
)

func wantWiden(t *testing.T, bits uint32, want uint64) {
	t.Helper()
	if got := number.Widen(bits); got != want {
		t.Errorf("Widen(%#x) = %#x; want %#x", bits, got, want)
	}
}

func wantNarrow(t *testing.T, bits uint64, want uint32) {
	t.Helper()
	if got := number.Narrow(bits); got != want {
		t.Errorf("Narrow(%#x) = %#x; want %#x", bits, got, want)
	}
}

// become tells the bits of a float of one kind as one of another, rounded.
func become(from, to kind, bits uint64) uint64 {
	switch sign := bits&from.signBit() != 0; {
	case from.isNaN(bits):
		return to.plain()
	case bits&^from.signBit() != from.infinite():
		return to.round(from.value(bits), sign)
	case sign:
		return to.signBit() | to.infinite()
	}
	return to.infinite()
}

// widened and narrowed tell what the model does.
func widened(bits uint32) uint64  { return become(narrow(), wide(), uint64(bits)) }
func narrowed(bits uint64) uint32 { return uint32(become(wide(), narrow(), bits)) }

// P10.3: answers that are written out.
func TestWidenByHand(t *testing.T) {
	for _, c := range []struct {
		bits uint32
		want uint64
	}{
		{0, 0}, {0x80000000, 0x8000000000000000}, {0x3f800000, 0x3ff0000000000000}, {0xbf800000, 0xbff0000000000000}, {0x40490fdb, 0x400921fb60000000},
		{1, 0x36a0000000000000}, {0x80000001, 0xb6a0000000000000}, {2, 0x36b0000000000000}, {3, 0x36b8000000000000}, {0x007fffff, 0x380fffffc0000000}, {0x00800000, 0x3810000000000000}, {0x80800001, 0xb810000020000000},
		{0x7f7fffff, 0x47efffffe0000000}, {0xff7fffff, 0xc7efffffe0000000}, {0x7f800000, 0x7ff0000000000000}, {0xff800000, 0xfff0000000000000},
		{0x7fc00000, 0x7ff8000000000000}, {0xffc00001, 0x7ff8000000000000}, {0xffc00000, 0x7ff8000000000000}, {0x7f800001, 0x7ff8000000000000}, {0xff800001, 0x7ff8000000000000}, {0x7fffffff, 0x7ff8000000000000}, {0xffffffff, 0x7ff8000000000000},
	} {
		wantWiden(t, c.bits, c.want)
	}
}

// P10.3: answers that are written out, those that lie halfway between two floats and next to halfway among them.
func TestNarrowByHand(t *testing.T) {
	for _, c := range []struct {
		bits uint64
		want uint32
	}{
		{0, 0}, {0x3ff0000000000000, 0x3f800000}, {0x3fb999999999999a, 0x3dcccccd}, {math.Float64bits(1e300), 0x7f800000},
		{0x3ff0000010000000, 0x3f800000}, {0x3ff0000010000001, 0x3f800001}, {0x3ff000000fffffff, 0x3f800000}, // Halfway, with an even f below.
		{0x3ff0000030000000, 0x3f800002}, {0x3ff000002fffffff, 0x3f800001}, {0x3ff0000030000001, 0x3f800002}, // With an even f above.
		{0x3fffffffefffffff, 0x3fffffff}, {0x3ffffffff0000000, 0x40000000}, {0x3fffffffffffffff, 0x40000000}, // Up to the next x.
		{0x3690000000000000, 0}, {0x3690000000000001, 1}, {0x368fffffffffffff, 0}, {0x36a0000000000000, 1}, // 2^-150: halfway to the least.
		{0x36a7ffffffffffff, 1}, {0x36a8000000000000, 2}, {0x36b4000000000000, 2}, {0x36b4000000000001, 3}, // 3 and 5 times 2^-150.
		{0x380fffffc0000000, 0x7fffff}, {0x380fffffdfffffff, 0x7fffff}, {0x380fffffe0000000, 0x800000}, {0x3810000000000000, 0x800000}, {0x380fffffffffffff, 0x800000}, // About the least with x above 0.
		{0x380fffffa0000000, 0x7ffffe}, {0x380fffffa0000001, 0x7fffff}, {0x3810000010000000, 0x800000}, {0x3810000010000001, 0x800001},
		{0x47efffffe0000000, 0x7f7fffff}, {0x47efffffefffffff, 0x7f7fffff}, {0x47effffff0000000, 0x7f800000}, {0x47effffff0000001, 0x7f800000}, {0x47f0000000000000, 0x7f800000}, // About infinite ones.
		{1, 0}, {0x000fffffffffffff, 0}, {0x0010000000000000, 0}, {0x7fefffffffffffff, 0x7f800000}, {0x7ff0000000000000, 0x7f800000},
	} {
		wantNarrow(t, c.bits, c.want)
		wantNarrow(t, 1<<63|c.bits, 1<<31|c.want)
	}
	for _, bits := range []uint64{0x7ff8000000000000, 0xfff8000000000000, 0x7ff0000000000001, 0xfff0000000000001, 0x7fffffffffffffff, 0xffffffffffffffff, 0x7ff0000020000000, 0x7ff000001fffffff, 0x7ff8000000000001, 0xfff4000000000000} {
		wantNarrow(t, bits, 0x7fc00000)
	}
}

// P10.3: each edge of the floats of 4 bytes, and those that are no numbers.
func TestWidenOfTheEdges(t *testing.T) {
	k := narrow()
	for _, bits := range append(k.edges(), k.nans()...) {
		wantWiden(t, uint32(bits), widened(uint32(bits)))
	}
}

// P10.3: each edge of the floats of 8 bytes, and those that are no numbers.
func TestNarrowOfTheEdges(t *testing.T) {
	k := wide()
	for _, bits := range append(k.edges(), k.nans()...) {
		wantNarrow(t, bits, narrowed(bits))
	}
}

// P10.3: floats that lie halfway between two of 4 bytes go to the one whose f is even, and those next to halfway to the nearer one.
func TestNarrowOfHalves(t *testing.T) {
	k := narrow()
	for x := range uint64(1<<k.exponent - 1) {
		for _, f := range []uint64{0, 1, 2, 3, 4, 0x155555, 0x2aaaaa, 0x3fffff, 0x400000, 0x400001, 0x7ffffc, 0x7ffffd, 0x7ffffe, 0x7fffff} {
			below := x<<k.fraction | f
			middle := new(big.Int).Add(k.value(below), k.value(below+1))
			middle.Rsh(middle, 1)
			half := wide().round(middle, false)
			if wide().value(half).Cmp(middle) != 0 {
				t.Fatalf("%#x lies not halfway", half)
			}
			for _, sign := range []uint64{0, 1} {
				high := uint32(sign << 31)
				wantNarrow(t, sign<<63|half, high|uint32(below+below%2))
				wantNarrow(t, sign<<63|half-1, high|uint32(below))
				wantNarrow(t, sign<<63|half+1, high|uint32(below+1))
			}
		}
	}
}

// P10.3: floats of all sorts are as the model says.
func TestWidenAndNarrowAreTheirModel(t *testing.T) {
	d := dice(3)
	for range 10000 {
		few, many := uint32(d.float(narrow())), d.float(wide())
		wantWiden(t, few, widened(few))
		wantNarrow(t, many, narrowed(many))
		// One of 8 bytes whose size is that of some float of 4 bytes, with more digits behind it.
		near := widened(few) ^ d.bits()>>35
		wantNarrow(t, near, narrowed(near))
	}
}

func wantFloat(t *testing.T, n, width int, want uint64) {
	t.Helper()
	if bits, e := number.Float(n, width); bits != want || e != api.OK {
		t.Errorf("Float(%d, %d) = %#x, %d; want %#x", n, width, bits, int(e), want)
	}
}

func wantFloatUint(t *testing.T, u uint64, width int, want uint64) {
	t.Helper()
	if bits, e := number.FloatUint(u, width); bits != want || e != api.OK {
		t.Errorf("FloatUint(%d, %d) = %#x, %d; want %#x", u, width, bits, int(e), want)
	}
}

// P10.4: answers that are written out.
func TestFloatByHand(t *testing.T) {
	for _, c := range []struct{ n, narrow, wide int }{
		{0, 0, 0}, {1, 0x3f800000, 0x3ff0000000000000}, {2, 0x40000000, 0x4000000000000000}, {100, 0x42c80000, 0x4059000000000000},
		{1<<24 - 1, 0x4b7fffff, 0x416fffffe0000000}, {1 << 24, 0x4b800000, 0x4170000000000000}, {1<<24 + 1, 0x4b800000, 0x4170000010000000}, {1<<24 + 2, 0x4b800001, 0x4170000020000000}, {1<<24 + 3, 0x4b800002, 0x4170000030000000},
		{1<<53 - 1, 0x5a000000, 0x433fffffffffffff}, {1 << 53, 0x5a000000, 0x4340000000000000}, {1<<53 + 1, 0x5a000000, 0x4340000000000000}, {1<<53 + 2, 0x5a000000, 0x4340000000000001}, {1<<53 + 3, 0x5a000000, 0x4340000000000002},
		{1<<60 + 1<<36, 0x5d800000, 0x43b0000010000000}, {1<<60 + 1<<36 + 1, 0x5d800001, 0x43b0000010000000}, // Rounded once, not twice.
		{1<<60 + 3<<36, 0x5d800002, 0x43b0000030000000}, {1<<60 + 3<<36 - 1, 0x5d800001, 0x43b0000030000000},
		{math.MaxInt, 0x5f000000, 0x43e0000000000000},
	} {
		wantFloat(t, c.n, 4, uint64(c.narrow))
		wantFloat(t, c.n, 8, uint64(c.wide))
		wantFloatUint(t, uint64(c.n), 4, uint64(c.narrow))
		wantFloatUint(t, uint64(c.n), 8, uint64(c.wide))
		if c.n != 0 {
			wantFloat(t, -c.n, 4, 1<<31|uint64(c.narrow))
			wantFloat(t, -c.n, 8, 1<<63|uint64(c.wide))
		}
	}
	wantFloat(t, math.MinInt, 4, 0xdf000000)
	wantFloat(t, math.MinInt, 8, 0xc3e0000000000000)
	wantFloatUint(t, 1<<63, 4, 0x5f000000)
	wantFloatUint(t, 1<<63, 8, 0x43e0000000000000)
	wantFloatUint(t, math.MaxUint64, 4, 0x5f800000)
	wantFloatUint(t, math.MaxUint64, 8, 0x43f0000000000000)
	wantFloatUint(t, math.MaxUint64-1<<39, 4, 0x5f7fffff)
	wantFloatUint(t, math.MaxUint64-1<<39+1, 4, 0x5f800000)
	wantFloatUint(t, math.MaxUint64-1<<10, 8, 0x43efffffffffffff)
	wantFloatUint(t, math.MaxUint64-1<<10+1, 8, 0x43f0000000000000)
}

// wantFloats asks for an integer of 64 bits, with a sign and without, as a float of either width.
func wantFloats(t *testing.T, u uint64) {
	t.Helper()
	for _, k := range kinds() {
		wantFloat(t, int(u), k.width, k.floatOf(big.NewInt(int64(u))))
		wantFloat(t, -int(u), k.width, k.floatOf(big.NewInt(-int64(u))))
		wantFloatUint(t, u, k.width, k.floatOf(new(big.Int).SetUint64(u)))
	}
}

// P10.4: each edge of the integers.
func TestFloatOfTheEdges(t *testing.T) {
	for _, n := range ints() {
		wantFloats(t, uint64(n))
	}
	for _, u := range uints() {
		wantFloats(t, u)
	}
}

// P10.4: integers that lie halfway between two floats, with an even f below and above, and those next to halfway.
func TestFloatOfHalves(t *testing.T) {
	for _, k := range kinds() {
		for shift := range 64 - k.fraction - 1 {
			half := uint64(1) << shift
			for _, f := range []uint64{0, 1, 2, 3, 1<<k.fraction - 3, 1<<k.fraction - 2, 1<<k.fraction - 1} {
				middle := (1<<k.fraction+f)<<(shift+1) + half
				for _, u := range []uint64{middle - 1, middle, middle + 1} {
					wantFloats(t, u)
				}
			}
		}
	}
}

// P10.4: integers of all sorts are as the model says.
func TestFloatIsItsModel(t *testing.T) {
	d := dice(4)
	for range 5000 {
		wantFloats(t, d.integer())
	}
}

// P10.4: widths that no float has.
func TestFloatOfWrongWidths(t *testing.T) {
	for _, width := range wrongFloatWidths() {
		for _, n := range ints() {
			if bits, e := number.Float(n, width); bits != 0 || e != api.ErrArg {
				t.Errorf("Float(%d, %d) = %#x, %d", n, width, bits, int(e))
			}
		}
		for _, u := range uints() {
			if bits, e := number.FloatUint(u, width); bits != 0 || e != api.ErrArg {
				t.Errorf("FloatUint(%d, %d) = %#x, %d", u, width, bits, int(e))
			}
		}
	}
}

func wantNan(t *testing.T, bits uint64, width int, want bool) {
	t.Helper()
	if is, e := number.Nan(bits, width); is != want || e != api.OK {
		t.Errorf("Nan(%#x, %d) = %v, %d", bits, width, is, int(e))
	}
}

// P10.4: floats that are no numbers, and all others.
func TestNan(t *testing.T) {
	for _, bits := range []uint64{0x7fc00000, 0xffc00000, 0x7f800001, 0xff800001, 0x7fffffff, 0xffffffff} {
		wantNan(t, bits, 4, true)
		wantNan(t, bits, 8, false)
	}
	for _, bits := range []uint64{0x7ff8000000000000, 0xfff8000000000000, 0x7ff0000000000001, 0xfff0000000000001, 0x7fffffffffffffff, 0xffffffffffffffff} {
		wantNan(t, bits, 8, true)
	}
	for _, k := range kinds() {
		for _, bits := range k.nans() {
			wantNan(t, bits, k.width, true)
		}
		for _, bits := range k.edges() {
			wantNan(t, bits, k.width, false)
		}
	}
	d := dice(5)
	for range 20000 {
		for _, k := range kinds() {
			bits := d.float(k)
			wantNan(t, bits, k.width, k.isNaN(bits))
			bits |= k.infinite()
			wantNan(t, bits, k.width, k.isNaN(bits))
		}
	}
}

// P10.4: widths that no float has, ahead of bits that are too many.
func TestNanOfWrongArguments(t *testing.T) {
	no := func(bits uint64, width int, want api.Errno) {
		t.Helper()
		if is, e := number.Nan(bits, width); is || e != want {
			t.Errorf("Nan(%#x, %d) = %v, %d; want the error %d", bits, width, is, int(e), int(want))
		}
	}
	great := []uint64{1 << 32, 1<<32 | 0x7fc00000, 0x7fc0000000000000, 0x7ff8000000000000, 1 << 63, math.MaxUint64}
	for _, bits := range append(great, 0, 1, 0x7fc00000, math.MaxUint32) {
		for _, width := range wrongFloatWidths() {
			no(bits, width, api.ErrArg)
		}
	}
	for _, bits := range great {
		no(bits, 4, api.ErrBig)
	}
}
