package octet_test

import (
	"bytes"
	"math"
	"math/big"
	"testing"

	"slabvault/api"
	"slabvault/octet"
)

// wrongWidths are such as no number has, those next to the edges first.
func wrongWidths() []int { return []int{0, 9, -1, 10, 64, math.MinInt, math.MaxInt} }

// power tells 2^(8 width + more) as a whole number of any size, so that tests do not reckon as the program does.
func power(width, more int) *big.Int {
	return new(big.Int).Lsh(big.NewInt(1), uint(8*width+more))
}

// edges tells numbers of a width: the least, the greatest, those about the sign, and some whose digits are all different.
func edges(width int) []uint64 {
	one := big.NewInt(1)
	half, top := power(width, -1), new(big.Int).Sub(power(width, 0), one)
	mixed := new(big.Int).And(new(big.Int).SetUint64(0x8192a3b4c5d6e7f8), top)
	low := new(big.Int).And(new(big.Int).SetUint64(0x0102030405060708), top)
	return []uint64{0, 1, new(big.Int).Sub(half, one).Uint64(), half.Uint64(), top.Uint64() - 1, top.Uint64(), mixed.Uint64(), low.Uint64()}
}

// digits tells the bytes of a number by whole divisions.
func digits(u uint64, width int, highFirst bool) []byte {
	rest, base, digit := new(big.Int).SetUint64(u), big.NewInt(256), new(big.Int)
	out := make([]byte, width)
	for i := range width {
		rest.DivMod(rest, base, digit)
		if highFirst {
			out[width-1-i] = byte(digit.Uint64())
		} else {
			out[i] = byte(digit.Uint64())
		}
	}
	return out
}

func wantPut(t *testing.T, b []byte, width int, highFirst bool, u uint64) {
	t.Helper()
	got, e := octet.Put(b, width, highFirst, u)
	want := append(append([]byte{}, b...), digits(u, width, highFirst)...)
	if e != api.OK || !bytes.Equal(got, want) {
		t.Errorf("Put(%x, %d, %v, %d) = %x, %d; want %x", b, width, highFirst, u, got, int(e), want)
	}
}

func TestPutLaysTheDigitsBehind(t *testing.T) {
	for _, b := range [][]byte{nil, {}, {7}, {0, 255, 3, 9, 9, 9, 9, 9, 9, 1}} {
		for width := 1; width <= 8; width++ {
			for _, u := range edges(width) {
				wantPut(t, b, width, true, u)
				wantPut(t, b, width, false, u)
			}
		}
	}
}

func TestPutOfEachNumberOfTwoBytes(t *testing.T) {
	for u := range uint64(1 << 16) {
		wantPut(t, nil, 2, true, u)
		wantPut(t, nil, 2, false, u)
	}
}

func TestPutOfTheExamples(t *testing.T) {
	high, e := octet.Put(nil, 2, true, 258)
	low, f := octet.Put(nil, 2, false, 258)
	if string(high) != "\x01\x02" || e != api.OK || string(low) != "\x02\x01" || f != api.OK {
		t.Error(high, int(e), low, int(f))
	}
}

func refusePut(t *testing.T, width int, u uint64, want api.Errno) {
	t.Helper()
	for _, highFirst := range []bool{true, false} {
		if got, e := octet.Put([]byte{1, 2}, width, highFirst, u); e != want || len(got) != 0 {
			t.Errorf("Put(.., %d, %v, %d) = %x, %d; want %d", width, highFirst, u, got, int(e), int(want))
		}
	}
}

func TestPutRefusesWidths(t *testing.T) {
	for _, width := range wrongWidths() {
		for _, u := range []uint64{0, 1, 256, math.MaxUint64} {
			refusePut(t, width, u, api.ErrArg)
		}
	}
}

func TestPutRefusesNumbersThatAreTooGreat(t *testing.T) {
	for width := 1; width <= 7; width++ {
		first := power(width, 0).Uint64()
		for _, u := range []uint64{first, first + 1, 1 << 63, math.MaxUint64} {
			refusePut(t, width, u, api.ErrBig)
		}
	}
}

func wantGet(t *testing.T, b []byte, at, width int, highFirst bool, want uint64, errno api.Errno) {
	t.Helper()
	if u, e := octet.Get(b, at, width, highFirst); u != want || e != errno {
		t.Errorf("Get(%x, %d, %d, %v) = %d, %d; want %d, %d", b, at, width, highFirst, u, int(e), want, int(errno))
	}
}

func TestGetReadsTheDigitsAtAPlace(t *testing.T) {
	for width := 1; width <= 8; width++ {
		for _, u := range edges(width) {
			for _, highFirst := range []bool{true, false} {
				for ahead := range 4 {
					for behind := range 3 {
						b := bytes.Repeat([]byte{0xa5}, ahead)
						b = append(b, digits(u, width, highFirst)...)
						b = append(b, bytes.Repeat([]byte{0x5a}, behind)...)
						wantGet(t, b, ahead, width, highFirst, u, api.OK)
					}
				}
			}
		}
	}
}

func TestGetOfTheExamples(t *testing.T) {
	b := []byte{1, 2}
	wantGet(t, b, 1, 1, true, 2, api.OK)
	wantGet(t, b, 1, 2, true, 0, api.ErrShort)
	wantGet(t, b, 3, 1, true, 0, api.ErrArg)
}

func TestGetRefusesWidthsAndPlaces(t *testing.T) {
	for _, highFirst := range []bool{true, false} {
		for _, b := range [][]byte{nil, {}, {1}, bytes.Repeat([]byte{1}, 100)} {
			for _, width := range wrongWidths() {
				for _, at := range []int{0, len(b), len(b) + 1, -1, math.MinInt, math.MaxInt} {
					wantGet(t, b, at, width, highFirst, 0, api.ErrArg)
				}
			}
			for width := 1; width <= 8; width++ {
				for _, at := range []int{-1, -8, len(b) + 1, len(b) + 8, math.MinInt, math.MaxInt, math.MaxInt - 7} {
					wantGet(t, b, at, width, highFirst, 0, api.ErrArg)
				}
			}
		}
	}
}

func TestGetAtTheEnd(t *testing.T) {
	for _, highFirst := range []bool{true, false} {
		for width := 1; width <= 8; width++ {
			for size := range 20 {
				b := bytes.Repeat([]byte{0}, size)
				for at := 0; at <= size; at++ {
					want := api.OK
					if at+width > size {
						want = api.ErrShort
					}
					wantGet(t, b, at, width, highFirst, 0, want)
				}
			}
		}
	}
}

func TestGetDoesNotReadBehindTheLength(t *testing.T) {
	whole := []byte{1, 2, 3, 4, 5, 6, 7, 8, 9}
	for width := 2; width <= 8; width++ {
		wantGet(t, whole[:width-1], 0, width, true, 0, api.ErrShort)
		wantGet(t, whole[:width-1], width-1, 1, true, 0, api.ErrShort)
		wantGet(t, whole[:width-1], width, 1, true, 0, api.ErrArg)
	}
}

func wantSigned(t *testing.T, u uint64, width int, want int, errno api.Errno) {
	t.Helper()
	if n, e := octet.Signed(u, width); n != want || e != errno {
		t.Errorf("Signed(%d, %d) = %d, %d; want %d, %d", u, width, n, int(e), want, int(errno))
	}
}

// signed takes 2^(8 width) away from numbers whose half is reached, in whole numbers of any size.
func signed(u uint64, width int) int {
	n := new(big.Int).SetUint64(u)
	if n.Cmp(power(width, -1)) >= 0 {
		n.Sub(n, power(width, 0))
	}
	return int(n.Int64())
}

func TestSigned(t *testing.T) {
	for width := 1; width <= 8; width++ {
		for _, u := range edges(width) {
			wantSigned(t, u, width, signed(u, width), api.OK)
		}
	}
	for u := range uint64(1 << 16) {
		wantSigned(t, u, 2, signed(u, 2), api.OK)
		wantSigned(t, u, 3, int(u), api.OK)
	}
}

func TestSignedOfTheExamples(t *testing.T) {
	wantSigned(t, 255, 1, -1, api.OK)
	wantSigned(t, 127, 1, 127, api.OK)
	wantSigned(t, 128, 1, -128, api.OK)
	wantSigned(t, 1<<63, 8, math.MinInt64, api.OK)
	wantSigned(t, 1<<63-1, 8, math.MaxInt64, api.OK)
	wantSigned(t, math.MaxUint64, 8, -1, api.OK)
}

func TestSignedRefuses(t *testing.T) {
	for _, width := range wrongWidths() {
		for _, u := range []uint64{0, 1, 256, math.MaxUint64} {
			wantSigned(t, u, width, 0, api.ErrArg)
		}
	}
	for width := 1; width <= 7; width++ {
		first := power(width, 0).Uint64()
		for _, u := range []uint64{first, first + 1, 1 << 63, math.MaxUint64} {
			wantSigned(t, u, width, 0, api.ErrBig)
		}
	}
}

func TestSwap(t *testing.T) {
	for _, x := range []struct{ from, to string }{{"", ""}, {"a", "a"}, {"ab", "ba"}, {"abc", "cba"}, {"abcd", "dcba"}, {"\x00\x00\xff", "\xff\x00\x00"}} {
		if got := octet.Swap([]byte(x.from)); string(got) != x.to {
			t.Errorf("Swap(%q) = %q; want %q", x.from, got, x.to)
		}
	}
	if got := octet.Swap(nil); len(got) != 0 {
		t.Errorf("Swap(nil) = %x", got)
	}
	long := make([]byte, 100001)
	for i := range long {
		long[i] = byte(i * i >> 3)
	}
	got := octet.Swap(long)
	if len(got) != len(long) {
		t.Fatalf("Swap of %d bytes has %d", len(long), len(got))
	}
	for i := range long {
		if got[i] != long[len(long)-1-i] {
			t.Fatalf("Swap: byte %d is %d", i, got[i])
		}
	}
}

// run tells so many bytes that are not all alike.
func run(size int) []byte {
	out := make([]byte, size)
	for i := range out {
		out[i] = byte(i*7 + i>>8 + 1)
	}
	return out
}

func TestPutBytesLaysLengthAndRun(t *testing.T) {
	for _, b := range [][]byte{nil, {}, {9}, run(300)} {
		for _, size := range []int{0, 1, 2, 3, 4, 255, 256, 257, 65535, api.MaxBlob} {
			x := run(size)
			got, e := octet.PutBytes(b, x)
			want := append(append(append([]byte{}, b...), 0, byte(size>>16), byte(size>>8), byte(size)), x...)
			if e != api.OK || !bytes.Equal(got, want) {
				t.Errorf("PutBytes of %d bytes behind %d: %d bytes, error %d", size, len(b), len(got), int(e))
			}
		}
	}
	if got, e := octet.PutBytes([]byte{5}, nil); e != api.OK || string(got) != "\x05\x00\x00\x00\x00" {
		t.Errorf("PutBytes of nothing: %x, %d", got, int(e))
	}
	if got, e := octet.PutBytes(nil, []byte("a")); e != api.OK || string(got) != "\x00\x00\x00\x01a" {
		t.Errorf("PutBytes of one byte: %x, %d", got, int(e))
	}
}

func TestPutBytesRefusesRunsThatAreTooLong(t *testing.T) {
	for _, size := range []int{api.MaxBlob + 1, api.MaxBlob + 2, 1 << 20} {
		if got, e := octet.PutBytes([]byte{1}, run(size)); e != api.ErrBig || len(got) != 0 {
			t.Errorf("PutBytes of %d bytes: %d bytes, error %d", size, len(got), int(e))
		}
	}
	// Only the run is bounded, not what stands ahead of it.
	if got, e := octet.PutBytes(run(api.MaxBlob+1), []byte{1}); e != api.OK || len(got) != api.MaxBlob+6 {
		t.Errorf("PutBytes behind a long list: %d bytes, error %d", len(got), int(e))
	}
}

func wantRun(t *testing.T, b []byte, at int, want []byte, next int, errno api.Errno) {
	t.Helper()
	got, n, e := octet.GetBytes(b, at)
	if e != errno || n != next || !bytes.Equal(got, want) {
		t.Errorf("GetBytes of %d bytes at %d: %d bytes, next %d, error %d; want %d bytes, %d, %d", len(b), at, len(got), n, int(e), len(want), next, int(errno))
	}
}

func TestGetBytes(t *testing.T) {
	for _, size := range []int{0, 1, 2, 255, 256, 257, 65535, api.MaxBlob} {
		for ahead := range 3 {
			for behind := range 3 {
				b := append(run(ahead), 0, byte(size>>16), byte(size>>8), byte(size))
				b = append(append(b, run(size)...), run(behind)...)
				wantRun(t, b, ahead, run(size), ahead+4+size, api.OK)
			}
		}
	}
}

func TestGetBytesRefusesPlaces(t *testing.T) {
	for _, b := range [][]byte{nil, {}, {0}, {0, 0, 0, 1, 'a'}, {0, 0, 0, 0, 0, 0, 0, 0}, {255, 255, 255, 255, 255}} {
		for _, at := range []int{-1, -4, math.MinInt, len(b) + 1, len(b) + 4, math.MaxInt, math.MaxInt - 3} {
			wantRun(t, b, at, nil, 0, api.ErrArg)
		}
	}
}

func TestGetBytesWithoutALength(t *testing.T) {
	for size := range 4 {
		b := bytes.Repeat([]byte{255}, size)
		for at := 0; at <= size; at++ {
			wantRun(t, b, at, nil, 0, api.ErrShort)
		}
	}
	wantRun(t, []byte{0, 0, 0, 1, 'a'}, 2, nil, 0, api.ErrShort)
	wantRun(t, []byte{0, 0, 0, 1, 'a'}, 5, nil, 0, api.ErrShort)
}

func TestGetBytesOfLengthsThatAreTooGreat(t *testing.T) {
	for _, head := range []string{"\x00\x01\x00\x01", "\x00\x02\x00\x00", "\x7f\xff\xff\xff", "\x80\x00\x00\x00", "\xff\xff\xff\xff", "\x01\x00\x00\x00"} {
		wantRun(t, []byte(head), 0, nil, 0, api.ErrBig)
		wantRun(t, append([]byte("xy"+head), run(1<<17)...), 2, nil, 0, api.ErrBig)
	}
}

func TestGetBytesOfRunsThatEndTooSoon(t *testing.T) {
	for _, size := range []int{1, 2, 255, 256, 65535, api.MaxBlob} {
		head := []byte{0, byte(size >> 16), byte(size >> 8), byte(size)}
		wantRun(t, head, 0, nil, 0, api.ErrShort)
		wantRun(t, append(head, run(size-1)...), 0, nil, 0, api.ErrShort)
		whole := append(append([]byte{1}, head...), run(size)...)
		wantRun(t, whole[:len(whole)-1], 1, nil, 0, api.ErrShort)
	}
}

func TestGetBytesDoesNotReadBehindTheLength(t *testing.T) {
	whole := []byte{0, 0, 0, 2, 'a', 'b', 'c'}
	for size := range 6 {
		wantRun(t, whole[:size], 0, nil, 0, api.ErrShort)
		wantRun(t, whole[:size], size+1, nil, 0, api.ErrArg)
	}
	wantRun(t, whole[:6], 0, []byte("ab"), 6, api.OK)
}

func TestThereAndBack(t *testing.T) {
	for width := 1; width <= 8; width++ {
		for _, u := range edges(width) {
			high, _ := octet.Put(nil, width, true, u)
			low, _ := octet.Put(nil, width, false, u)
			if !bytes.Equal(high, octet.Swap(low)) || !bytes.Equal(low, octet.Swap(high)) {
				t.Errorf("%d of %d bytes: %x and %x", u, width, high, low)
			}
			wantGet(t, high, 0, width, true, u, api.OK)
			wantGet(t, low, 0, width, false, u, api.OK)
			wantGet(t, octet.Swap(high), 0, width, false, u, api.OK)
		}
	}
}

func TestRowsOfNumbers(t *testing.T) {
	var b []byte
	for width := 1; width <= 8; width++ {
		for _, u := range edges(width) {
			b, _ = octet.Put(b, width, u&1 == 0, u)
		}
	}
	at := 0
	for width := 1; width <= 8; width++ {
		for _, u := range edges(width) {
			wantGet(t, b, at, width, u&1 == 0, u, api.OK)
			at += width
		}
	}
	if at != len(b) {
		t.Errorf("the row has %d bytes, %d were read", len(b), at)
	}
}

func TestRowsOfRuns(t *testing.T) {
	sizes := []int{0, 3, 0, 0, 1, api.MaxBlob, 5, 256, api.MaxBlob, 0}
	b := []byte("ahead")
	for _, size := range sizes {
		var e api.Errno
		if b, e = octet.PutBytes(b, run(size)); e != api.OK {
			t.Fatal(int(e))
		}
	}
	at := len("ahead")
	for _, size := range sizes {
		wantRun(t, b, at, run(size), at+4+size, api.OK)
		at += 4 + size
	}
	if at != len(b) {
		t.Errorf("the row has %d bytes, %d were read", len(b), at)
	}
	wantRun(t, b, at, nil, 0, api.ErrShort)
}
