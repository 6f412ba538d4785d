package extent_test

import (
	"bytes"
	"encoding/binary"
	"encoding/hex"
	"hash/crc32"
	"math"
	"slices"
	"testing"

	"slabvault/api"
	"slabvault/extent"
)

// plain lays a count and numbers down as chapter 5 says, without the sum: they need be no good list's.
func plain(count uint32, numbers ...uint32) []byte {
	b := binary.BigEndian.AppendUint32(nil, count)
	for _, n := range numbers {
		b = binary.BigEndian.AppendUint32(b, n)
	}
	return b
}

// plainOf tells a list's bytes without the sum.
func plainOf(l []api.Extent) []byte {
	var numbers []uint32
	for _, x := range l {
		numbers = append(numbers, uint32(x.At), uint32(x.Size))
	}
	return plain(uint32(len(l)), numbers...)
}

func sealed(b []byte) []byte {
	return binary.LittleEndian.AppendUint32(bytes.Clone(b), crc32.ChecksumIEEE(b))
}

func wantBytes(t *testing.T, l []api.Extent, want []byte, errno api.Errno) {
	t.Helper()
	got, e := extent.Bytes(l)
	if e != errno || !bytes.Equal(got, want) {
		t.Fatalf("Bytes of %d: %v: %d: %.60x, error %d; want %d: %.60x, error %d", len(l), shown(l), len(got), got, int(e), len(want), want, int(errno))
	}
}

func wantLoad(t *testing.T, b []byte, want []api.Extent, errno api.Errno) {
	t.Helper()
	got, e := extent.Load(b)
	if e != errno || !slices.Equal(got, want) {
		t.Fatalf("Load of %d: %.60x: %d: %v, error %d; want %d: %v, error %d", len(b), b, len(got), shown(got), int(e), len(want), shown(want), int(errno))
	}
}

// someGoodLists tells good lists of all lengths.
func someGoodLists() [][]api.Extent {
	out := [][]api.Extent{nil, list(0, 1), list(0, api.MaxFile), list(api.MaxFile-1, 1), list(0, 2, 8, 2), list(255, 1, 257, 255, 65535, 65536)}
	for _, base := range windows {
		out = append(out, goodLists(base)...)
	}
	return append(out, comb(api.MaxItems-1, 0, 2, 1), comb(api.MaxItems, 0, 2, 1), comb(api.MaxItems, 1, 64, 63))
}

// P5.5
func TestBytesAndLoadOfGoodLists(t *testing.T) {
	for _, l := range someGoodLists() {
		b := sealed(plainOf(l))
		wantBytes(t, l, b, api.OK)
		wantLoad(t, b, l, api.OK)
	}
}

// P5.5: one list's bytes, written out.
func TestBytesWrittenOut(t *testing.T) {
	ahead, _ := hex.DecodeString("00000002" + "00010203" + "00020406" + "003fffff" + "00000001")
	wantBytes(t, list(0x10203, 0x20406, api.MaxFile-1, 1), sealed(ahead), api.OK)
	wantBytes(t, nil, sealed([]byte{0, 0, 0, 0}), api.OK)
	wantBytes(t, []api.Extent{}, []byte{0, 0, 0, 0, 0x1c, 0xdf, 0x44, 0x21}, api.OK)
}

// P5.5
func TestBytesRefuses(t *testing.T) {
	for _, l := range badLists() {
		wantBytes(t, l, nil, api.ErrArg)
	}
}

// P5.5: Unseal's errors: too few bytes, and bytes of which one is another one, or that are cut off.
func TestLoadOfWhatIsNotSealed(t *testing.T) {
	wantLoad(t, nil, nil, api.ErrShort)
	for _, l := range [][]api.Extent{nil, list(0, 2), list(0, 2, 8, 2)} {
		b := sealed(plainOf(l))
		for size := range len(b) {
			errno := api.ErrCorrupt
			if size < 4 {
				errno = api.ErrShort
			}
			wantLoad(t, b[:size], nil, errno)
		}
		for place := range b {
			for x := range 256 {
				turned := bytes.Clone(b)
				turned[place] = byte(x)
				if !bytes.Equal(turned, b) {
					wantLoad(t, turned, nil, api.ErrCorrupt)
				}
			}
		}
		wantLoad(t, append(bytes.Clone(b), 0), nil, api.ErrCorrupt)
		wantLoad(t, plainOf(l), nil, api.ErrCorrupt)
	}
}

// P5.5: bytes whose sum is theirs, but that end too soon or go on behind the last extent.
func TestLoadOfOtherLengths(t *testing.T) {
	for _, l := range [][]api.Extent{nil, list(0, 2), list(0, 2, 8, 2), comb(api.MaxItems, 0, 2, 1)} {
		b := plainOf(l)
		for _, size := range []int{0, 1, 3, 4, 5, 8, 11, 12, 13, 16, 19, len(b) - 8, len(b) - 4, len(b) - 1} {
			if 0 <= size && size < len(b) {
				wantLoad(t, sealed(b[:size]), nil, api.ErrCorrupt)
			}
		}
		for more := 1; more <= 20; more++ {
			wantLoad(t, sealed(append(bytes.Clone(b), make([]byte, more)...)), nil, api.ErrCorrupt)
		}
		wantLoad(t, sealed(sealed(b)), nil, api.ErrCorrupt)
	}
	wantLoad(t, sealed(nil), nil, api.ErrCorrupt)
}

// P5.5: a count that is not the one of the extents behind it, also one whose bytes together do not fit 32 bits.
func TestLoadOfOtherCounts(t *testing.T) {
	numbers := []uint32{0, 2, 8, 2}
	wantLoad(t, sealed(plain(2, numbers...)), list(0, 2, 8, 2), api.OK)
	for _, count := range []uint32{0, 1, 3, 4, 256, api.MaxItems, 1 << 25, 1 << 29, 1<<29 + 2, 1<<31 + 2, 1<<31 - 1, math.MaxUint32} {
		wantLoad(t, sealed(plain(count, numbers...)), nil, api.ErrCorrupt)
		wantLoad(t, sealed(plain(count|1<<29)), nil, api.ErrCorrupt)
	}
	for _, count := range []int{1, api.MaxItems + 1, 2 * api.MaxItems} {
		wantLoad(t, sealed(make([]byte, 8*count)), nil, api.ErrCorrupt)
	}
	wantLoad(t, sealed(plainOf(comb(api.MaxItems+1, 0, 2, 1))), nil, api.ErrCorrupt)
	wantLoad(t, sealed(plainOf(comb(api.MaxItems+1, 0, 63, 62))), nil, api.ErrCorrupt)
}

// P5.5: bytes that are sealed well, but whose list is not good.
func TestLoadOfListsThatAreNotGood(t *testing.T) {
	for _, numbers := range [][]uint32{
		{0, 0}, {5, 0}, {api.MaxFile, 0}, {api.MaxFile, 1}, {0, api.MaxFile + 1}, {api.MaxFile - 1, 2}, {api.MaxFile + 1, 1},
		{math.MaxUint32, 1}, {math.MaxUint32, 2}, {0, math.MaxUint32}, {1, math.MaxUint32}, {1 << 31, 1 << 31}, {1 << 31, 1}, {1, 1 << 31},
		{0, 2, 2, 3}, {0, 4, 2, 4}, {0, 9, 3, 2}, {3, 2, 3, 2}, {8, 2, 0, 2}, {0, 2, 5, 0}, {5, 0, 8, 2}, {0, 2, math.MaxUint32, 3}, {math.MaxUint32, 3, 8, 2},
	} {
		wantLoad(t, sealed(plain(uint32(len(numbers)/2), numbers...)), nil, api.ErrCorrupt)
	}
	// A list whose numbers have the lowest byte first.
	low := binary.LittleEndian.AppendUint32(nil, 1)
	low = binary.LittleEndian.AppendUint32(low, 0)
	wantLoad(t, sealed(binary.LittleEndian.AppendUint32(low, 2)), nil, api.ErrCorrupt)
}

// P5.5: whatever is loaded is what Bytes lays down, and nothing else is loaded: one byte of what was sealed is any other one.
func TestLoadTakesOnlyWhatBytesTells(t *testing.T) {
	good := 0
	for _, l := range [][]api.Extent{nil, list(0, 2), list(0, 2, 8, 2), list(api.MaxFile-256, 255)} {
		b := plainOf(l)
		for place := range b {
			for x := range 256 {
				turned := bytes.Clone(b)
				turned[place] = byte(x)
				turned = sealed(turned)
				got, e := extent.Load(turned)
				if e == api.OK {
					wantGood(t, got, api.MaxFile, true)
					wantBytes(t, got, turned, api.OK)
					good++
				} else if e != api.ErrCorrupt || len(got) != 0 {
					t.Fatalf("Load of %x: %v, error %d", turned, got, int(e))
				}
			}
		}
	}
	if good < 100 {
		t.Errorf("only %d are loaded", good)
	}
}
