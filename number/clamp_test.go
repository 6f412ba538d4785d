package number_test

import (
	"math"
	"math/big"
	"testing"

	"slabvault/api"
	"slabvault/number"
)

func wantClamp(t *testing.T, n, width int, sign bool, want uint64) {
	t.Helper()
	if u, e := number.Clamp(n, width, sign); u != want || e != api.OK {
		t.Errorf("Clamp(%d, %d, %v) = %#x, %d; want %#x", n, width, sign, u, int(e), want)
	}
}

func wantClampUint(t *testing.T, n uint64, width int, sign bool, want uint64) {
	t.Helper()
	if u, e := number.ClampUint(n, width, sign); u != want || e != api.OK {
		t.Errorf("ClampUint(%d, %d, %v) = %#x, %d; want %#x", n, width, sign, u, int(e), want)
	}
}

// P10.1: answers that are written out.
func TestClampByHand(t *testing.T) {
	for _, c := range []struct {
		n, width int
		sign     bool
		want     uint64
	}{
		{300, 1, false, 255}, {-300, 1, true, 128}, {-1, 2, false, 0}, {300, 1, true, 127},
		{127, 1, true, 127}, {128, 1, true, 127}, {-128, 1, true, 128}, {-129, 1, true, 128}, {-127, 1, true, 129}, {-1, 1, true, 255},
		{255, 1, false, 255}, {256, 1, false, 255}, {254, 1, false, 254}, {-1, 1, false, 0}, {0, 1, false, 0}, {0, 1, true, 0},
		{-2, 2, true, 0xfffe}, {32768, 2, true, 0x7fff}, {65536, 2, false, 0xffff}, {-32769, 2, true, 0x8000},
		{1 << 23, 3, true, 0x7fffff}, {-1<<23 - 1, 3, true, 0x800000}, {1 << 24, 3, false, 0xffffff},
		{1 << 31, 4, true, 0x7fffffff}, {1 << 31, 4, false, 0x80000000}, {1 << 32, 4, false, 0xffffffff}, {-1<<31 - 1, 4, true, 0x80000000},
		{1 << 39, 5, true, 0x7fffffffff}, {1 << 40, 5, false, 0xffffffffff},
		{1 << 47, 6, true, 0x7fffffffffff}, {1 << 48, 6, false, 0xffffffffffff},
		{1 << 55, 7, true, 0x7fffffffffffff}, {1 << 56, 7, false, 0xffffffffffffff}, {math.MinInt, 7, true, 0x80000000000000},
		{math.MaxInt, 8, true, 0x7fffffffffffffff}, {math.MaxInt, 8, false, 0x7fffffffffffffff},
		{math.MinInt, 8, true, 0x8000000000000000}, {math.MinInt, 8, false, 0}, {-1, 8, true, math.MaxUint64}, {-1, 8, false, 0},
	} {
		wantClamp(t, c.n, c.width, c.sign, c.want)
	}
	for _, c := range []struct {
		u     uint64
		width int
		sign  bool
		want  uint64
	}{
		{0, 1, true, 0}, {127, 1, true, 127}, {128, 1, true, 127}, {255, 1, true, 127}, {255, 1, false, 255}, {256, 1, false, 255},
		{math.MaxUint64, 1, true, 127}, {math.MaxUint64, 1, false, 255}, {math.MaxUint64, 7, false, 1<<56 - 1},
		{1<<63 - 1, 8, true, 1<<63 - 1}, {1 << 63, 8, true, 1<<63 - 1}, {math.MaxUint64, 8, true, 1<<63 - 1},
		{1 << 63, 8, false, 1 << 63}, {math.MaxUint64, 8, false, math.MaxUint64},
	} {
		wantClampUint(t, c.u, c.width, c.sign, c.want)
	}
}

// P10.1: each width, with a sign and without: both ends of its range, those about them, and all other edges.
func TestClampOfTheEdges(t *testing.T) {
	for _, width := range widths() {
		for _, sign := range bools() {
			for _, n := range ints() {
				wantClamp(t, n, width, sign, clamped(big.NewInt(int64(n)), width, sign))
			}
			for _, u := range uints() {
				wantClampUint(t, u, width, sign, clamped(new(big.Int).SetUint64(u), width, sign))
			}
		}
	}
}

// P10.1: each number of two bytes and some more.
func TestClampOfEachSmallNumber(t *testing.T) {
	for n := -70000; n <= 70000; n++ {
		for width := 1; width <= 3; width++ {
			for _, sign := range bools() {
				want := clamped(big.NewInt(int64(n)), width, sign)
				wantClamp(t, n, width, sign, want)
				if n >= 0 {
					wantClampUint(t, uint64(n), width, sign, want)
				}
			}
		}
	}
}

// P10.1: integers of all sorts are as the model says.
func TestClampIsItsModel(t *testing.T) {
	d := dice(1)
	for range 20000 {
		u := d.integer()
		for _, width := range widths() {
			for _, sign := range bools() {
				wantClamp(t, int(u), width, sign, clamped(big.NewInt(int64(u)), width, sign))
				wantClamp(t, -int(u), width, sign, clamped(big.NewInt(-int64(u)), width, sign))
				wantClampUint(t, u, width, sign, clamped(new(big.Int).SetUint64(u), width, sign))
			}
		}
	}
}

// P10.1: widths that no integer has.
func TestClampOfWrongWidths(t *testing.T) {
	for _, width := range wrongWidths() {
		for _, sign := range bools() {
			for _, n := range ints() {
				if u, e := number.Clamp(n, width, sign); u != 0 || e != api.ErrArg {
					t.Errorf("Clamp(%d, %d, %v) = %d, %d", n, width, sign, u, int(e))
				}
			}
			for _, n := range uints() {
				if u, e := number.ClampUint(n, width, sign); u != 0 || e != api.ErrArg {
					t.Errorf("ClampUint(%d, %d, %v) = %d, %d", n, width, sign, u, int(e))
				}
			}
		}
	}
}
