package number_test

import (
	"math"
	"math/big"
	"testing"

	"slabvault/api"
	"slabvault/number"
)

func wantTrunc(t *testing.T, bits uint64, from, width int, sign bool, want uint64) {
	t.Helper()
	if u, e := number.Trunc(bits, from, width, sign); u != want || e != api.OK {
		t.Errorf("Trunc(%#x, %d, %d, %v) = %#x, %d; want %#x", bits, from, width, sign, u, int(e), want)
	}
}

// truncated tells what stands ahead of the point of a float that is no NaN, or the end of the range that is nearest.
func (k kind) truncated(bits uint64, width int, sign bool) uint64 {
	return clamped(new(big.Int).Quo(k.value(bits), power(scale)), width, sign)
}

// wantTruncOfAll asks for a float as an integer of each width, with a sign and without.
func wantTruncOfAll(t *testing.T, k kind, bits uint64) {
	t.Helper()
	for _, width := range widths() {
		for _, sign := range bools() {
			want := uint64(0)
			if !k.isNaN(bits) {
				want = k.truncated(bits, width, sign)
			}
			wantTrunc(t, bits, k.width, width, sign, want)
		}
	}
}

// P10.2: answers that are written out, of floats that both widths have.
func TestTruncByHand(t *testing.T) {
	for _, c := range []struct {
		f     float32
		width int
		sign  bool
		want  uint64
	}{
		{0, 1, true, 0}, {0, 8, false, 0}, {0.5, 1, true, 0}, {0.99, 4, false, 0}, {1, 1, true, 1}, {1.5, 1, false, 1}, {1.9, 2, true, 1}, {2.5, 8, false, 2}, {-0.5, 1, true, 0}, {-0.99, 8, true, 0}, {-0.99, 8, false, 0},
		{-1, 1, true, 255}, {-1, 1, false, 0}, {-1.9, 1, true, 255}, {-1.9, 8, true, math.MaxUint64}, {-1.9, 8, false, 0}, {-2.5, 2, true, 0xfffe},
		{127.9, 1, true, 127}, {128, 1, true, 127}, {-128.9, 1, true, 128}, {-129, 1, true, 128}, {255.9, 1, false, 255}, {256, 1, false, 255}, {255, 1, true, 127},
		{1e9, 2, true, 32767}, {1e9, 2, false, 65535}, {-1e9, 2, true, 32768}, {-1e9, 2, false, 0},
		{1 << 62, 8, true, 1 << 62}, {1 << 63, 8, true, 1<<63 - 1}, {-1 << 63, 8, true, 1 << 63}, {1 << 63, 8, false, 1 << 63}, {-1 << 63, 8, false, 0}, {1 << 64, 8, true, 1<<63 - 1}, {-1 << 64, 8, true, 1 << 63}, {1 << 64, 8, false, math.MaxUint64}, {1 << 64, 7, false, 1<<56 - 1},
		{math.SmallestNonzeroFloat32, 8, false, 0}, {-math.SmallestNonzeroFloat32, 8, true, 0}, {-math.SmallestNonzeroFloat32, 8, false, 0},
		{math.MaxFloat32, 8, true, 1<<63 - 1}, {-math.MaxFloat32, 8, true, 1 << 63}, {math.MaxFloat32, 8, false, math.MaxUint64}, {-math.MaxFloat32, 8, false, 0},
	} {
		wantTrunc(t, uint64(math.Float32bits(c.f)), 4, c.width, c.sign, c.want)
		wantTrunc(t, math.Float64bits(float64(c.f)), 8, c.width, c.sign, c.want)
	}
}

// P10.2: answers that are written out, by the bits of floats of 8 bytes.
func TestTruncOfWideFloatsByHand(t *testing.T) {
	for _, c := range []struct {
		bits  uint64
		width int
		sign  bool
		want  uint64
	}{
		{0x43dfffffffffffff, 8, true, 0x7ffffffffffffc00}, {0xc3dfffffffffffff, 8, true, 0x8000000000000400}, {0xc3e0000000000000, 8, true, 1 << 63}, {0xc3e0000000000001, 8, true, 1 << 63},
		{0x43dfffffffffffff, 8, false, 0x7ffffffffffffc00}, {0x43e0000000000001, 8, false, 0x8000000000000800}, {0x43efffffffffffff, 8, false, 0xfffffffffffff800}, {0x43f0000000000000, 8, false, math.MaxUint64}, {0x43f0000000000001, 8, false, math.MaxUint64},
		{0x41dfffffffffffff, 4, true, 0x7fffffff}, {0xc1e00000001fffff, 4, true, 0x80000000}, {0xc1e0000000200000, 4, true, 0x80000000}, {0x3fefffffffffffff, 1, false, 0}, {0xbff0000000000000, 1, true, 255}, {0xbfefffffffffffff, 1, true, 0},
		{1, 8, true, 0}, {1 << 63, 8, true, 0}, {1 << 63, 8, false, 0}, {1<<63 | 1, 1, false, 0}, {0x7fefffffffffffff, 8, false, math.MaxUint64}, {0xffefffffffffffff, 3, true, 0x800000},
		{0x7ff0000000000000, 8, true, 1<<63 - 1}, {0xfff0000000000000, 8, true, 1 << 63}, {0x7ff0000000000000, 1, false, 255}, {0xfff0000000000000, 1, false, 0},
		{0x7ff8000000000000, 4, true, 0}, {0x7ff0000000000001, 8, false, 0}, {0xffffffffffffffff, 8, true, 0},
	} {
		wantTrunc(t, c.bits, 8, c.width, c.sign, c.want)
	}
}

// P10.2: each edge of the floats of either width, as an integer of each width.
func TestTruncOfTheEdges(t *testing.T) {
	for _, k := range kinds() {
		for _, bits := range k.edges() {
			wantTruncOfAll(t, k, bits)
		}
	}
}

// P10.2: floats that are no numbers.
func TestTruncOfNaNs(t *testing.T) {
	for _, k := range kinds() {
		for _, bits := range k.nans() {
			for _, width := range widths() {
				wantTrunc(t, bits, k.width, width, false, api.NaNToInt)
				wantTrunc(t, bits, k.width, width, true, api.NaNToInt)
			}
		}
	}
}

// P10.2: floats of all sorts are as the model says.
func TestTruncIsItsModel(t *testing.T) {
	d := dice(2)
	for range 5000 {
		for _, k := range kinds() {
			wantTruncOfAll(t, k, d.float(k))
		}
	}
}

// P10.2: widths that no float or no integer has, and bits that are too many; the former come first.
func TestTruncOfWrongArguments(t *testing.T) {
	no := func(bits uint64, from, width int, want api.Errno) {
		t.Helper()
		for _, sign := range bools() {
			if u, e := number.Trunc(bits, from, width, sign); u != 0 || e != want {
				t.Errorf("Trunc(%#x, %d, %d, %v) = %d, %d; want the error %d", bits, from, width, sign, u, int(e), int(want))
			}
		}
	}
	small := []uint64{0, 1, 0x3f800000, 0x7f800000, 0x7fc00000, math.MaxUint32}
	great := []uint64{1 << 32, 1<<32 | 0x3f800000, 0x3ff0000000000000, 1 << 63, math.MaxUint64, 0x7ff8000000000000}
	for _, bits := range append(small, great...) {
		for _, from := range wrongFloatWidths() {
			for _, width := range append(widths(), wrongWidths()...) {
				no(bits, from, width, api.ErrArg)
			}
		}
		for _, width := range wrongWidths() {
			no(bits, 4, width, api.ErrArg)
			no(bits, 8, width, api.ErrArg)
		}
	}
	for _, bits := range great {
		for _, width := range widths() {
			no(bits, 4, width, api.ErrBig)
			wantTruncOfAll(t, wide(), bits)
		}
	}
	for _, bits := range small {
		wantTruncOfAll(t, narrow(), bits)
	}
}
