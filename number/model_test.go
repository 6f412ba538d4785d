package number_test

import (
	"math"
	"math/big"
	"sort"
)

// The model goes by the chapter's words, with whole numbers of any size: a float's value is told as how often 2^-1074 goes into it, which is a whole number for floats of either width.
const scale = 1074

// kind says how floats of a width are made.
type kind struct {
	width    int
	fraction uint // bits of f
	exponent uint // bits of x
	lowest   uint // the least float above 0 is 2^lowest times 2^-scale
}

func narrow() kind { return kind{width: 4, fraction: 23, exponent: 8, lowest: scale - 149} }

func wide() kind { return kind{width: 8, fraction: 52, exponent: 11, lowest: 0} }

func kinds() []kind { return []kind{narrow(), wide()} }

func bools() []bool { return []bool{false, true} }

func widths() []int { return []int{1, 2, 3, 4, 5, 6, 7, 8} }

// wrongWidths are such as no integer has, those next to the edges first.
func wrongWidths() []int {
	return []int{0, 9, -1, 10, 16, 64, -4, -8, 256, 1 << 32, math.MinInt, math.MaxInt}
}

// wrongFloatWidths are such as no float has.
func wrongFloatWidths() []int { return append(wrongWidths(), 1, 2, 3, 5, 6, 7) }

// infinite tells the bits of the infinite float without a sign.
func (k kind) infinite() uint64 { return (1<<k.exponent - 1) << k.fraction }

// plain tells the bits of the plain NaN.
func (k kind) plain() uint64 { return k.infinite() | 1<<(k.fraction-1) }

// signBit tells the highest bit.
func (k kind) signBit() uint64 { return 1 << (k.fraction + k.exponent) }

// most tells the greatest pattern of bits.
func (k kind) most() uint64 { return k.signBit() | (k.signBit() - 1) }

// isNaN says whether all bits of x are on, and not all of f off.
func (k kind) isNaN(bits uint64) bool {
	return bits&k.infinite() == k.infinite() && bits&(1<<k.fraction-1) != 0
}

// value tells the number that a float is, times 2^scale. An infinite one is as great as its bits would say if it were not: 2^128 or 2^1024.
func (k kind) value(bits uint64) *big.Int {
	f, x := bits&(1<<k.fraction-1), uint(bits&k.infinite()>>k.fraction)
	n := new(big.Int).SetUint64(f)
	if x > 0 {
		n.SetUint64(1<<k.fraction+f).Lsh(n, x-1)
	}
	n.Lsh(n, k.lowest)
	if bits&k.signBit() != 0 {
		n.Neg(n)
	}
	return n
}

// round tells the bits of the float that is nearest to a number (times 2^scale), of two as near the one whose f is even: all floats without a sign stand in the order of their bits, so that two neighbours are looked for. negative is the sign.
func (k kind) round(n *big.Int, negative bool) uint64 {
	size := new(big.Int).Abs(n)
	above := uint64(sort.Search(int(k.infinite()), func(i int) bool { return k.value(uint64(i)).Cmp(size) >= 0 }))
	bits := above
	if k.value(above).Cmp(size) > 0 {
		toAbove, toBelow := new(big.Int).Sub(k.value(above), size), new(big.Int).Sub(size, k.value(above-1))
		if c := toAbove.Cmp(toBelow); c > 0 || c == 0 && above%2 == 1 {
			bits = above - 1
		}
	}
	if negative {
		bits |= k.signBit()
	}
	return bits
}

// scaled tells an integer times 2^scale.
func scaled(n *big.Int) *big.Int { return new(big.Int).Lsh(n, scale) }

// floatOf tells the bits of an integer, rounded.
func (k kind) floatOf(n *big.Int) uint64 { return k.round(scaled(n), n.Sign() < 0) }

// power tells 2^n.
func power(n int) *big.Int { return new(big.Int).Lsh(big.NewInt(1), uint(n)) }

// plus tells an integer and some more.
func plus(n *big.Int, more int64) *big.Int { return new(big.Int).Add(n, big.NewInt(more)) }

// ends tells the range of the integers of a width.
func ends(width int, sign bool) (least, most *big.Int) {
	if sign {
		return new(big.Int).Neg(power(8*width - 1)), plus(power(8*width-1), -1)
	}
	return new(big.Int), plus(power(8*width), -1)
}

// clamped tells an integer, or the end of the range that is nearest, by its lowest bytes.
func clamped(n *big.Int, width int, sign bool) uint64 {
	least, most := ends(width, sign)
	if n.Cmp(least) < 0 {
		n = least
	}
	if n.Cmp(most) > 0 {
		n = most
	}
	if n.Sign() < 0 {
		n = new(big.Int).Add(n, power(8*width))
	}
	return n.Uint64()
}

// untold tells the integer that a width's lowest bytes tell.
func untold(u uint64, width int, sign bool) *big.Int {
	n := new(big.Int).SetUint64(u)
	if sign && n.Cmp(power(8*width-1)) >= 0 {
		n.Sub(n, power(8*width))
	}
	return n
}

// integers tells integers about all that is an edge, in order: about 0, and about each power of 2 up to 2^65 and below 0.
func integers() []*big.Int {
	var list []*big.Int
	for n := range 66 {
		for more := int64(-3); more <= 3; more++ {
			x := plus(power(n), more)
			list = append(list, x, new(big.Int).Neg(x))
		}
	}
	for _, n := range []int64{0, 5, 10, 100, 300, 1000, 12345, 1e9, 1e15, 1e18} {
		list = append(list, big.NewInt(n), big.NewInt(-n))
	}
	sort.Slice(list, func(i, j int) bool { return list[i].Cmp(list[j]) < 0 })
	return list
}

// ints tells those of integers that an int can be.
func ints() []int {
	var list []int
	for _, n := range integers() {
		if n.IsInt64() {
			list = append(list, int(n.Int64()))
		}
	}
	return list
}

// uints tells those of integers that a uint64 can be.
func uints() []uint64 {
	var list []uint64
	for _, n := range integers() {
		if n.IsUint64() {
			list = append(list, n.Uint64())
		}
	}
	return list
}

// nans tells patterns of floats that are no numbers, of every make, with either sign.
func (k kind) nans() []uint64 {
	var list []uint64
	add := func(f uint64) { list = append(list, k.infinite()|f, k.signBit()|k.infinite()|f) }
	for i := range k.fraction {
		add(1 << i)
		add(1<<k.fraction - 1 - 1<<i)
		add(1<<(i+1) - 1)
		add(1<<(k.fraction-1) | 1<<i)
	}
	return list
}

// edges tells floats that are numbers, or infinite, with either sign: the ends of what x and f can be, and each float that is the nearest to an edge of the integers, to such a one and a part of 1, and those next to it.
func (k kind) edges() []uint64 {
	var list []uint64
	add := func(bits uint64) {
		for _, b := range []uint64{bits - 2, bits - 1, bits, bits + 1, bits + 2} {
			if b <= k.infinite() {
				list = append(list, b, k.signBit()|b)
			}
		}
	}
	for x := range uint64(1 << k.exponent) {
		add(x << k.fraction)
		add(x<<k.fraction | 1<<(k.fraction-1))
	}
	for _, n := range integers() {
		if n.Sign() < 0 {
			continue
		}
		for tenth := range int64(10) {
			part := new(big.Int).Div(new(big.Int).Mul(power(scale), big.NewInt(tenth)), big.NewInt(10))
			add(k.round(new(big.Int).Add(scaled(n), part), false))
		}
	}
	return list
}

// dice tells numbers that are hard to foretell, and always the same ones.
type dice uint64

func (d *dice) bits() uint64 {
	*d = *d*6364136223846793005 + 1442695040888963407
	x := uint64(*d)
	x ^= x >> 33
	x *= 0xff51afd7ed558ccd
	return x ^ x>>29
}

// integer tells a number of any length in bits.
func (d *dice) integer() uint64 { return d.bits() >> (d.bits() % 64) }

// float tells the bits of a float: any, or one that is not far from 1 in size, so that it has digits on either side of its point.
func (d *dice) float(k kind) uint64 {
	bits := d.bits() & k.most()
	if d.bits()%2 == 0 {
		return bits
	}
	one := uint64(1)<<(k.exponent-1) - 1
	return bits&^k.infinite() | (one-8+d.bits()%80)<<k.fraction
}
