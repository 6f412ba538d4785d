package octet_test

import (
	"bytes"
	"testing"

	"slabvault/api"
	"slabvault/octet"
)

// spare is how many bytes stand behind the length of what is handed in.
const spare = 64

// guarded tells bytes with spare room, and that same memory whole.
func guarded(b []byte) (part, whole []byte) {
	whole = append(append([]byte{}, b...), bytes.Repeat([]byte{0xee}, spare)...)
	return whole[:len(b)], whole
}

// scribble writes all over an answer, spare room too.
func scribble(b []byte) {
	b = b[:cap(b)]
	for i := range b {
		b[i] ^= 0x55
	}
}

// wantOwnMemory asks that a call leaves what it is given alone, that what it answers shares no memory with that, and that two answers share none with each other.
func wantOwnMemory(t *testing.T, name string, given []byte, call func(b []byte) []byte) {
	t.Helper()
	part, whole := guarded(given)
	before := bytes.Clone(whole)
	first := call(part)
	if !bytes.Equal(whole, before) {
		t.Errorf("%s changed what it was given", name)
	}
	kept, second := bytes.Clone(first), call(part)
	if !bytes.Equal(first, second) {
		t.Errorf("%s answers %x, then %x", name, first, second)
	}
	scribble(first)
	if !bytes.Equal(whole, before) {
		t.Errorf("%s answers memory that it was given", name)
	}
	if !bytes.Equal(second, kept) {
		t.Errorf("%s answers one memory twice", name)
	}
	scribble(whole)
	if !bytes.Equal(second, kept) {
		t.Errorf("%s answers memory that it was given", name)
	}
	if behind := second[len(second):cap(second)]; bytes.IndexByte(behind, 0xee) >= 0 {
		t.Errorf("%s hands out what stood behind the length: %x", name, behind)
	}
}

func put(width int, highFirst bool) func(b []byte) []byte {
	return func(b []byte) []byte {
		out, _ := octet.Put(b, width, highFirst, 200)
		return out
	}
}

func TestAnswersAreNewMemory(t *testing.T) {
	for _, size := range []int{0, 1, 2, 3, 8, 31, 32, 100, 1000} {
		given := bytes.Repeat([]byte{0x11}, size)
		for width := 1; width <= 8; width++ {
			wantOwnMemory(t, "Put", given, put(width, true))
			wantOwnMemory(t, "Put", given, put(width, false))
		}
		wantOwnMemory(t, "Swap", given, octet.Swap)
		wantOwnMemory(t, "PutBytes", given, func(b []byte) []byte {
			out, _ := octet.PutBytes(b, []byte{1, 2, 3})
			return out
		})
		wantOwnMemory(t, "PutBytes of nothing", given, func(b []byte) []byte {
			out, _ := octet.PutBytes(b, nil)
			return out
		})
		wantOwnMemory(t, "PutBytes of the run", given, func(x []byte) []byte {
			out, _ := octet.PutBytes(nil, x)
			return out
		})
		wantOwnMemory(t, "PutBytes behind itself", given, func(b []byte) []byte {
			out, _ := octet.PutBytes(b, b)
			return out
		})
		laid, _ := octet.PutBytes(nil, given)
		wantOwnMemory(t, "GetBytes", laid, func(b []byte) []byte {
			out, _, _ := octet.GetBytes(b, 0)
			return out
		})
	}
}

func TestRunThatLiesInTheSpareRoom(t *testing.T) {
	whole := []byte("abcdefghijklmnop")
	got, e := octet.PutBytes(whole[:2], whole[3:7])
	if e != api.OK || string(got) != "ab\x00\x00\x00\x04defg" || string(whole) != "abcdefghijklmnop" {
		t.Errorf("PutBytes = %q, %d; given: %q", got, int(e), whole)
	}
	got, e = octet.PutBytes(whole[4:6], whole[:8])
	if e != api.OK || string(got) != "ef\x00\x00\x00\x08abcdefgh" || string(whole) != "abcdefghijklmnop" {
		t.Errorf("PutBytes = %q, %d; given: %q", got, int(e), whole)
	}
}

func TestRefusalsChangeNothing(t *testing.T) {
	for _, given := range [][]byte{{}, {1}, {0, 0, 0, 9, 1}, {9, 0, 0, 0, 1}, {0, 1}} {
		part, whole := guarded(given)
		before := bytes.Clone(whole)
		octet.Put(part, 0, true, 1)
		octet.Put(part, 1, false, 256)
		octet.Get(part, len(part), 8, true)
		octet.Get(part, -1, 9, false)
		octet.GetBytes(part, 0)
		octet.GetBytes(part, len(part)+1)
		octet.PutBytes(part, make([]byte, api.MaxBlob+1))
		if !bytes.Equal(whole, before) {
			t.Errorf("a refused call changed %x to %x", before, whole)
		}
	}
}
