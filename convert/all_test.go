package convert_test

import (
	"bytes"
	"math"
	"testing"

	"slabvault/api"
	"slabvault/convert"
)

// pairs tells types of all sorts of which the one becomes the other, by two.
func pairs() [][2]api.Type {
	var l [][2]api.Type
	for i, from := range goodTypes() {
		for j, to := range goodTypes() {
			if becomes(from, to) && ((3*i+j)%5 == 0 || i == j || from.Class > api.ClassComplex) {
				l = append(l, [2]api.Type{from, to})
			}
		}
	}
	return l
}

// P11.2: an element of one byte less or more, of none, or of many.
func TestOneOfOtherSizes(t *testing.T) {
	for _, p := range pairs() {
		from, to := p[0], p[1]
		size := sizeOf(from)
		wantNoOne(t, from, to, nil, api.ErrArg)
		wantNoOne(t, from, to, []byte{}, api.ErrArg)
		for _, n := range []int{size - 1, size + 1, 2 * size, 3*size - 1, size + 1<<16} {
			wantNoOne(t, from, to, make([]byte, n), api.ErrArg)
			wantNoOne(t, from, to, make([]byte, n, n+size), api.ErrArg)
		}
		wantNoOne(t, from, to, make([]byte, 4*size)[:0], api.ErrArg)
		if sizeOf(to) != size {
			wantNoOne(t, from, to, make([]byte, sizeOf(to)), api.ErrArg)
		}
		wantOne(t, from, to, make([]byte, size), make([]byte, sizeOf(to)))
	}
}

// P11.3: what comes of several elements is what comes of each, one behind the other.
func TestAllIsEach(t *testing.T) {
	d := dice(3)
	for _, p := range pairs() {
		from, to := p[0], p[1]
		for _, n := range []int{0, 1, 2, 3, 17} {
			x := d.bytes(n * sizeOf(from))
			var want []byte
			for i := range n {
				y, e := convert.One(from, to, x[i*sizeOf(from):(i+1)*sizeOf(from)])
				if e != api.OK || len(y) != sizeOf(to) {
					t.Fatalf("One(%+v, %+v) = %x, %d", from, to, y, int(e))
				}
				want = append(want, y...)
			}
			wantAll(t, from, to, x, n, want)
			wantAll(t, from, to, x, n, comes(from, to, x))
		}
		if t.Failed() {
			t.FailNow()
		}
	}
}

// P11.3: no elements, of bytes that are nil or empty.
func TestAllOfNone(t *testing.T) {
	for _, p := range pairs() {
		wantAll(t, p[0], p[1], nil, 0, nil)
		wantAll(t, p[0], p[1], []byte{}, 0, nil)
		wantAll(t, p[0], p[1], make([]byte, 9)[:0], 0, nil)
		wantNoAll(t, p[0], p[1], []byte{0}, 0, api.ErrArg)
		wantNoAll(t, p[0], p[1], make([]byte, sizeOf(p[0])), 0, api.ErrArg)
	}
}

// P11.3: as many elements as may be, of the smallest type and of the greatest, and one more.
func TestAllOfMost(t *testing.T) {
	d := dice(4096)
	for _, p := range [][2]api.Type{
		{signed(1), unsigned(1)}, {unsigned(1), high(complexType(8))}, {float(4), high(float(8))}, {float(8), signed(3)}, {high(unsigned(8)), unsigned(8)},
		{array(unsigned(1), api.MaxElement), array(signed(1), api.MaxElement)}, {array(complexType(8), 16), array(complexType(8), 16)},
		{compound(api.MaxElement, field("a", 0, signed(1))), compound(api.MaxElement, field("a", api.MaxElement-2, high(signed(2))))},
	} {
		from, to := p[0], p[1]
		x := d.bytes((api.MaxSelect + 1) * sizeOf(from))
		for _, n := range []int{api.MaxSelect - 1, api.MaxSelect} {
			some := x[:n*sizeOf(from)]
			y, e := convert.All(from, to, some, n)
			if e != api.OK || len(y) != n*sizeOf(to) {
				t.Fatalf("All of %d elements tells %d bytes, %d", n, len(y), int(e))
			}
			for _, i := range []int{0, 1, 1000, n - 2, n - 1} {
				wantOne(t, from, to, some[i*sizeOf(from):(i+1)*sizeOf(from)], y[i*sizeOf(to):(i+1)*sizeOf(to)])
			}
			wantNoAll(t, from, to, some[1:], n, api.ErrArg)
			wantNoAll(t, from, to, x[:len(some)+1], n, api.ErrArg)
		}
		wantNoAll(t, from, to, x, api.MaxSelect+1, api.ErrTooBig)
	}
}

// P11.3: bytes that are not those of so many elements.
func TestAllOfOtherSizes(t *testing.T) {
	for _, p := range pairs() {
		size := sizeOf(p[0])
		for _, n := range []int{1, 2, 5, api.MaxSelect} {
			wantNoAll(t, p[0], p[1], nil, n, api.ErrArg)
			wantNoAll(t, p[0], p[1], []byte{}, n, api.ErrArg)
			for _, count := range []int{n*size - 1, n*size + 1, (n - 1) * size, (n + 1) * size} {
				wantNoAll(t, p[0], p[1], make([]byte, count), n, api.ErrArg)
			}
			if to := sizeOf(p[1]); to != size {
				wantNoAll(t, p[0], p[1], make([]byte, n*to), n, api.ErrArg)
			}
		}
	}
}

// P11.3: a count below 0, ahead of bytes that do not fit it; one that is too great, also so great that with the size it would be beyond an int and come out as what fits.
func TestAllOfCountsThatMayNotBe(t *testing.T) {
	for _, p := range pairs() {
		size := sizeOf(p[0])
		for _, count := range []int{0, 1, size, 2 * size, size + 1} {
			x := make([]byte, count)
			for _, n := range []int{-1, -2, -api.MaxSelect, -api.MaxSelect - 1, math.MinInt32, math.MinInt, math.MinInt + 1, math.MinInt / size} {
				wantNoAll(t, p[0], p[1], x, n, api.ErrArg)
			}
			for _, n := range []int{api.MaxSelect + 1, 2 * api.MaxSelect, math.MaxInt32, 1 << 32, 1<<32 + 1, 1 << 56, 1<<56 + 1, 1 << 60, 1<<61 + 1, 1 << 62, 1<<62 + 1, math.MaxInt / size, math.MaxInt/(size+1) + 1, math.MaxInt - 1, math.MaxInt} {
				wantNoAll(t, p[0], p[1], x, n, api.ErrTooBig)
			}
		}
	}
}

// P11.1 to P11.3: which error comes ahead where several apply.
func TestWhichErrorComesFirst(t *testing.T) {
	good, other, bad := signed(2), array(signed(2), 1), signed(9)
	for _, p := range [][2]api.Type{{bad, good}, {good, bad}, {bad, other}, {other, bad}, {bad, bad}} {
		wantCan(t, p[0], p[1], api.ErrType, "a type that may not be")
	}
	wantCan(t, good, other, api.ErrConvert, "types that do not become one another")
	for _, x := range [][]byte{nil, {1}, {1, 2}, bytes.Repeat([]byte{1}, 8192)} {
		wantNoAll(t, good, good, x, -1, api.ErrArg)
		wantNoAll(t, good, good, x, api.MaxSelect+1, api.ErrTooBig)
	}
	wantNoAll(t, good, good, make([]byte, 3), 1, api.ErrArg)
	wantNoOne(t, good, good, make([]byte, 3), api.ErrArg)
	deep := array(compound(4, field("a", 0, good), field("b", 2, array(bad, 1))), 1)
	wantCan(t, deep, array(compound(4, field("a", 0, other)), 1), api.ErrType, "deep within, one that may not be beside such as do not become one another")
}
