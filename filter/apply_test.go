package filter_test

import (
	"testing"

	"slabvault/api"
	"slabvault/filter"
)

// P16.2, P16.3: the document's examples, and others that can be read.
func TestTexts(t *testing.T) {
	for _, x := range []struct {
		l       []api.Filter
		b, told string
	}{
		{nil, "abc", "abc"}, {pipe(), "", ""},
		{pipe(summed()), "ab", "ab\x01\x24\x00\xc3"},
		{pipe(shuffled(2), matched()), "aaaaaaaaa", "\x01\x00a\x84\x01"},
		{pipe(shuffled(1)), "aAbB", "aAbB"}, {pipe(shuffled(2)), "aAbBcCx", "abcABCx"}, {pipe(shuffled(3)), "abcABCx", "aAbBcCx"},
		{pipe(shuffled(8)), "abcdefghABCDEFGHxyz", "aAbBcCdDeEfFgGhHxyz"}, {pipe(shuffled(8)), "abcdefg", "abcdefg"},
		{pipe(delta(1)), "\x05\x07\x06", "\x05\x02\xff"}, {pipe(delta(2)), "\x01\x00\x00\x01\x09", "\x01\x00\xff\x00\x09"},
		{pipe(delta(8)), "\x01\x00\x00\x00\x00\x00\x00\x00\x00\x00\x00\x00\x00\x00\x00\x00x", "\x01\x00\x00\x00\x00\x00\x00\x00\xff\xff\xff\xff\xff\xff\xff\xffx"},
		{pipe(matched()), "abc", "\x00abc"}, {pipe(matched()), "aaaaaaaaa", "\x01\x00a\x84\x01"},
		{pipe(summed()), "abc", "abc\x02\x4a\x01\x26"}, {pipe(summed()), "\x00", "\x00\x00\x00\x00\x00"}, {pipe(summed()), "\x01", "\x01\x00\x01\x00\x01"},
		{pipe(summed(), summed()), "\x01", "\x01\x00\x01\x00\x01\x00\x09\x00\x03"},
		{pipe(matched(), summed()), "\x01", "\x00\x01\x00\x01\x00\x01"}, {pipe(summed(), matched()), "\x01", "\x00\x01\x00\x01\x00\x01"},
		{pipe(matched(), summed()), "aaaaaaaaa", "\x01\x00a\x84\x01\x02\x31\x00\xe7"}, {pipe(summed(), matched()), "aaaaaaaaa", "\x01\x00a\x84\x01\x03\x11\x0d\x03\x69"},
		{pipe(shuffled(2), delta(1)), "\x01\x05\x02\x07", "\x01\x01\x03\x02"}, {pipe(delta(1), shuffled(2)), "\x01\x05\x02\x07", "\x01\xfd\x04\x05"},
		{pipe(shuffled(2), shuffled(2)), "abcdefgh", "aebfcgdh"}, {pipe(delta(1), delta(1)), "\x01\x03\x06\x0a", "\x01\x01\x01\x01"},
		{pipe(shuffled(2), shuffled(3)), "abcdefgh", "agcbedfh"}, {pipe(shuffled(3), shuffled(2)), "abcdefgh", "abcgdefh"},
		{pipe(delta(1), matched()), "\x01\x02\x03\x04\x05\x06\x07\x08\x09", "\x01\x00\x01\x84\x01"},
		{pipe(delta(1), matched(), summed()), "\x01\x02\x03\x04\x05\x06\x07\x08\x09", "\x01\x00\x01\x84\x01\x01\x11\x00\x87"},
		{pipe(matched(), matched()), "aaaaaaaaa", "\x00\x01\x00a\x84\x01"},
	} {
		both(t, x.l, []byte(x.b), []byte(x.told))
	}
}

// P16.2, P16.3: of no bytes, nil or empty: shuffle and delta tell none, a packing is the byte 0, and a sum four noughts.
func TestOfNoBytes(t *testing.T) {
	for _, b := range [][]byte{nil, {}, []byte("abc")[:0]} {
		both(t, nil, b, nil)
		both(t, []api.Filter{}, b, nil)
		both(t, pipe(matched()), b, []byte{0})
		both(t, pipe(summed()), b, make([]byte, 4))
		both(t, times(4, summed()), b, make([]byte, 16))
		both(t, times(4, matched()), b, make([]byte, 4))
		for width := 1; width <= 8; width++ {
			both(t, pipe(shuffled(width)), b, nil)
			both(t, pipe(delta(width)), b, nil)
			both(t, pipe(shuffled(width), delta(9-width), shuffled(width), summed()), b, make([]byte, 4))
		}
		both(t, pipe(summed(), matched()), b, make([]byte, 5))
		both(t, pipe(matched(), summed()), b, make([]byte, 5))
	}
}

// P16.2, P16.3: no filter leaves all as it is, also the most bytes.
func TestOfNoFilter(t *testing.T) {
	for n := range 300 {
		both(t, nil, numbered(n), numbered(n))
	}
	for _, n := range []int{api.MaxChunk - 1, api.MaxChunk} {
		both(t, nil, numbered(n), numbered(n))
		both(t, []api.Filter{}, numbered(n), numbered(n))
	}
}

// P16.2, P16.3: a sum stands behind in four bytes, the highest one first, of each one byte, and of many.
func TestOfSums(t *testing.T) {
	for x := range 256 {
		both(t, pipe(summed()), []byte{byte(x)}, []byte{byte(x), 0, byte(x), 0, byte(x)})
		both(t, pipe(summed()), []byte{byte(x), 0, 0}, []byte{byte(x), 0, 0, byte(3 * x >> 8), byte(3 * x), 0, byte(x)})
	}
	for n := range 300 {
		both(t, pipe(summed()), numbered(n), sealed(numbered(n)))
		both(t, pipe(summed()), same(255, n), sealed(same(255, n)))
		both(t, times(2, summed()), numbered(n), sealed(sealed(numbered(n))))
	}
	for x := range 256 {
		both(t, pipe(summed()), same(byte(x), api.MaxChunk), sealed(same(byte(x), api.MaxChunk)))
	}
}

// P16.2, P16.3: each at most two of all filters, so all orders of two kinds, with bytes that are no multiple of a width among them, against the second reading.
func TestEachTwoFilters(t *testing.T) {
	for _, l := range short() {
		for _, b := range [][]byte{nil, {7}, numbered(8), numbered(19), same(200, 40), numbered(67)} {
			told, _ := modelApply(l, b)
			both(t, l, b, told)
		}
	}
}

// P16.2, P16.3: each length up to some numbers with the longest rest, through each filter.
func TestEachLength(t *testing.T) {
	d := dice(1)
	for _, f := range all() {
		for n := range 70 {
			for _, b := range [][]byte{numbered(n), same(byte(n), n), d.bytes(n, 2), d.bytes(n, 256)} {
				told, _ := modelApply(pipe(f), b)
				both(t, pipe(f), b, told)
			}
		}
	}
}

// P16.2: just MaxChunk bytes are filtered, also where there are more behind the first filter; one more is ErrCap, whatever the filters are, and where there is none.
func TestApplyOfTheMostBytes(t *testing.T) {
	for _, l := range append(short(), times(4, summed()), times(4, matched()), times(4, shuffled(8)), times(4, delta(8))) {
		b := numbered(api.MaxChunk + 1)
		told, e := filter.Apply(l, b[:api.MaxChunk])
		if e != api.OK {
			t.Errorf("Apply(%s, MaxChunk bytes): %d", listed(l), e)
		}
		if got, e := filter.Undo(l, told, api.MaxChunk); e != api.OK || string(got) != string(b[:api.MaxChunk]) {
			t.Errorf("Undo(%s, %s, MaxChunk) = %s, %d", listed(l), brief(told), brief(got), e)
		}
		for _, n := range []int{1, 2, 4096, api.MaxData, 1 << 20} {
			refuseApply(t, l, same(1, api.MaxChunk+n), api.ErrCap)
		}
		refuseApply(t, l, b, api.ErrCap)
	}
	both(t, times(4, summed()), numbered(api.MaxChunk), sealed(sealed(sealed(sealed(numbered(api.MaxChunk))))))
}

// P16.2: Check's error comes first, also where there are too many bytes: ErrBig of too many filters, ErrArg of wrong ones.
func TestApplyOfWrongFilters(t *testing.T) {
	for _, b := range [][]byte{nil, []byte("abc"), numbered(api.MaxChunk), numbered(api.MaxChunk + 1), same(0, api.MaxData+1)} {
		for _, f := range wrong() {
			refuseApply(t, pipe(f), b, api.ErrArg)
			refuseApply(t, pipe(summed(), f), b, api.ErrArg)
			refuseApply(t, pipe(f, matched(), matched()), b, api.ErrArg)
			refuseApply(t, times(5, f), b, api.ErrBig)
		}
		for _, f := range some() {
			refuseApply(t, times(5, f), b, api.ErrBig)
			refuseApply(t, times(300, f), b, api.ErrBig)
		}
	}
}
