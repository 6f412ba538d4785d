package number_test

import (
	"math"
	"math/big"
	"slices"
	"testing"

	"slabvault/api"
	"slabvault/number"
)

// fits says whether an integer lies within a range.
func fits(n *big.Int, width int, sign bool) bool {
	least, most := ends(width, sign)
	return n.Cmp(least) >= 0 && n.Cmp(most) <= 0
}

// languageInt tells an integer as the language's type of that width does, by its bytes; not each width has one.
func languageInt(n int, width int, sign bool) (bits uint64, is bool) {
	switch {
	case width == 1 && sign:
		return uint64(uint8(int8(n))), true
	case width == 1:
		return uint64(uint8(n)), true
	case width == 2 && sign:
		return uint64(uint16(int16(n))), true
	case width == 2:
		return uint64(uint16(n)), true
	case width == 4 && sign:
		return uint64(uint32(int32(n))), true
	case width == 4:
		return uint64(uint32(n)), true
	case width == 8:
		return uint64(n), true
	}
	return 0, false
}

// languageTrunc tells a float as the language's type of that width does, by its bytes.
func languageTrunc(f float64, width int, sign bool) (bits uint64, is bool) {
	switch {
	case width == 1 && sign:
		return uint64(uint8(int8(f))), true
	case width == 1:
		return uint64(uint8(f)), true
	case width == 2 && sign:
		return uint64(uint16(int16(f))), true
	case width == 2:
		return uint64(uint16(f)), true
	case width == 4 && sign:
		return uint64(uint32(int32(f))), true
	case width == 4:
		return uint64(uint32(f)), true
	case width == 8 && sign:
		return uint64(int64(f)), true
	case width == 8:
		return uint64(f), true
	}
	return 0, false
}

// P10.5: integers within the target's range are the language's.
func TestIntegersAreTheLanguages(t *testing.T) {
	asked := 0
	for _, width := range widths() {
		for _, sign := range bools() {
			for _, n := range ints() {
				if want, is := languageInt(n, width, sign); is && fits(big.NewInt(int64(n)), width, sign) {
					wantClamp(t, n, width, sign, want)
					asked++
				}
			}
			for _, u := range uints() {
				if want, is := languageInt(int(u), width, sign); is && fits(new(big.Int).SetUint64(u), width, sign) {
					wantClampUint(t, u, width, sign, want)
					asked++
				}
			}
		}
	}
	if asked < 1000 {
		t.Errorf("only %d were asked", asked)
	}
}

// P10.5: floats as integers within the target's range are the language's.
func TestTruncIsTheLanguages(t *testing.T) {
	asked := 0
	for _, k := range kinds() {
		for _, bits := range k.edges() {
			f, cut := math.Float64frombits(bits), new(big.Int).Quo(k.value(bits), power(scale))
			if k.width == 4 {
				f = float64(math.Float32frombits(uint32(bits)))
			}
			for _, width := range widths() {
				for _, sign := range bools() {
					if want, is := languageTrunc(f, width, sign); is && fits(cut, width, sign) {
						wantTrunc(t, bits, k.width, width, sign, want)
						asked++
					}
				}
			}
		}
	}
	if asked < 10000 {
		t.Errorf("only %d were asked", asked)
	}
}

// P10.5: floats of the other width, and integers as floats, are the language's.
func TestFloatsAreTheLanguages(t *testing.T) {
	for _, bits := range narrow().edges() {
		wantWiden(t, uint32(bits), math.Float64bits(float64(math.Float32frombits(uint32(bits)))))
	}
	for _, bits := range wide().edges() {
		if f := math.Float64frombits(bits); math.Abs(f) <= math.MaxFloat32 {
			wantNarrow(t, bits, math.Float32bits(float32(f)))
		}
	}
	for _, n := range ints() {
		wantFloat(t, n, 4, uint64(math.Float32bits(float32(n))))
		wantFloat(t, n, 8, math.Float64bits(float64(n)))
	}
	for _, u := range uints() {
		wantFloatUint(t, u, 4, uint64(math.Float32bits(float32(u))))
		wantFloatUint(t, u, 8, math.Float64bits(float64(u)))
	}
}

// wantBack asks that an integer comes back from a float of a width, in each range that it lies in.
func wantBack(t *testing.T, n, width int) {
	bits, e := number.Float(n, width)
	if e != api.OK {
		t.Fatalf("Float(%d, %d): %d", n, width, int(e))
	}
	if back, e := number.Trunc(bits, width, 8, true); int(back) != n || e != api.OK {
		t.Fatalf("%d comes back from %d bytes as %d, %d", n, width, int(back), int(e))
	}
	if n < 0 {
		return
	}
	bits, e = number.FloatUint(uint64(n), width)
	if e != api.OK {
		t.Fatalf("FloatUint(%d, %d): %d", n, width, int(e))
	}
	if back, e := number.Trunc(bits, width, 8, false); back != uint64(n) || e != api.OK {
		t.Fatalf("%d comes back from %d bytes as %d, %d", n, width, back, int(e))
	}
}

// P10.6: integers of up to 2^24 in size come back from 4 bytes, of up to 2^53 from 8; the next one does not.
func TestIntegersComeBack(t *testing.T) {
	for n := range 1<<24 + 1 {
		wantBack(t, n, 4)
		wantBack(t, -n, 4)
	}
	for more := range 1 << 20 {
		for _, n := range []int{more, 1<<24 - 1<<19 + more, 1<<52 - 1<<19 + more, 1<<53 - more} {
			wantBack(t, n, 8)
			wantBack(t, -n, 8)
		}
	}
	d := dice(6)
	for range 1 << 20 {
		n := int(d.integer() >> 11)
		wantBack(t, n, 8)
		wantBack(t, -n, 8)
	}
	for _, n := range []int{1<<24 + 1, -1<<24 - 1} {
		bits, _ := number.Float(n, 4)
		if back, _ := number.Trunc(bits, 4, 8, true); int(back) == n {
			t.Errorf("%d comes back from 4 bytes", n)
		}
	}
}

// P10.6: integers come back in their own width too.
func TestIntegersComeBackInTheirWidth(t *testing.T) {
	for _, k := range kinds() {
		for _, n := range ints() {
			if size := new(big.Int).Abs(big.NewInt(int64(n))); size.Cmp(power(int(k.fraction)+1)) > 0 {
				continue
			}
			bits, _ := number.Float(n, k.width)
			for _, width := range widths() {
				for _, sign := range bools() {
					if fits(big.NewInt(int64(n)), width, sign) {
						wantTrunc(t, bits, k.width, width, sign, clamped(big.NewInt(int64(n)), width, sign))
					}
				}
			}
		}
	}
}

// P10.6: floats of 4 bytes that are no NaN come back from 8.
func TestFloatsComeBack(t *testing.T) {
	back := func(bits uint32) {
		if got := number.Narrow(number.Widen(bits)); got != bits && !narrow().isNaN(uint64(bits)) {
			t.Fatalf("%#x comes back as %#x", bits, got)
		}
	}
	for _, bits := range narrow().edges() {
		back(uint32(bits))
	}
	const step = 1009 // It has no factor in common with 2^32, so that the lowest bits come in every make.
	for bits := uint64(0); bits <= math.MaxUint32; bits += step {
		back(uint32(bits))
	}
}

// P10.7: of two integers that are in order what comes of them is too.
func TestOrderBehindClamp(t *testing.T) {
	for _, width := range widths() {
		for _, sign := range bools() {
			low, _ := number.Clamp(math.MinInt, width, sign)
			for _, n := range ints() {
				u, _ := number.Clamp(n, width, sign)
				if untold(u, width, sign).Cmp(untold(low, width, sign)) < 0 {
					t.Errorf("Clamp(%d, %d, %v) = %#x is below %#x", n, width, sign, u, low)
				}
				low = u
			}
			low = 0
			for _, n := range uints() {
				u, _ := number.ClampUint(n, width, sign)
				if untold(u, width, sign).Cmp(untold(low, width, sign)) < 0 {
					t.Errorf("ClampUint(%d, %d, %v) = %#x is below %#x", n, width, sign, u, low)
				}
				low = u
			}
		}
	}
}

// inOrder tells floats of all sorts that are no NaN, the least one first.
func (k kind) inOrder() []uint64 {
	list, d := k.edges(), dice(7)
	for range 5000 {
		if bits := d.float(k); !k.isNaN(bits) {
			list = append(list, bits)
		}
	}
	slices.SortFunc(list, func(a, b uint64) int { return k.value(a).Cmp(k.value(b)) })
	return list
}

// P10.7: of two floats that are in order the integers are too.
func TestOrderBehindTrunc(t *testing.T) {
	for _, k := range kinds() {
		list := k.inOrder()
		for _, width := range widths() {
			for _, sign := range bools() {
				low, _ := number.Trunc(list[0], k.width, width, sign)
				for _, bits := range list {
					u, _ := number.Trunc(bits, k.width, width, sign)
					if untold(u, width, sign).Cmp(untold(low, width, sign)) < 0 {
						t.Errorf("Trunc(%#x, %d, %d, %v) = %#x is below %#x", bits, k.width, width, sign, u, low)
					}
					low = u
				}
			}
		}
	}
}

// P10.7: of two floats of 8 bytes that are in order those of 4 bytes are too.
func TestOrderBehindNarrow(t *testing.T) {
	low := narrow().signBit() | narrow().infinite()
	for _, bits := range wide().inOrder() {
		got := uint64(number.Narrow(bits))
		if narrow().value(got).Cmp(narrow().value(low)) < 0 {
			t.Errorf("Narrow(%#x) = %#x is below %#x", bits, got, low)
		}
		low = got
	}
}
