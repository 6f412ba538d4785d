package check_test

import (
	"bytes"
	"testing"

	"slabvault/check"
)

// spare is how many bytes stand behind the length of what is handed in.
const spare = 64

// guarded tells bytes with spare room, and that same memory whole.
func guarded(b []byte) (part, whole []byte) {
	whole = append(append([]byte{}, b...), bytes.Repeat([]byte{0xee}, spare)...)
	return whole[:len(b)], whole
}

// scribble writes all over an answer, spare room too.
func scribble(b []byte) {
	b = b[:cap(b)]
	for i := range b {
		b[i] ^= 0x55
	}
}

// wantOwnMemory asks that a call leaves what it is given alone, that what it answers shares no memory with that, and that two answers share none with each other.
func wantOwnMemory(t *testing.T, name string, given []byte, call func(b []byte) []byte) {
	t.Helper()
	part, whole := guarded(given)
	before := bytes.Clone(whole)
	first := call(part)
	if !bytes.Equal(whole, before) {
		t.Errorf("%s changed what it was given", name)
	}
	kept, second := bytes.Clone(first), call(part)
	if !bytes.Equal(first, second) {
		t.Errorf("%s answers %x, then %x", name, first, second)
	}
	scribble(first)
	if !bytes.Equal(whole, before) {
		t.Errorf("%s answers memory that it was given", name)
	}
	if !bytes.Equal(second, kept) {
		t.Errorf("%s answers one memory twice", name)
	}
	scribble(whole)
	if !bytes.Equal(second, kept) {
		t.Errorf("%s answers memory that it was given", name)
	}
	if behind := second[len(second):cap(second)]; bytes.IndexByte(behind, 0xee) >= 0 {
		t.Errorf("%s hands out what stood behind the length: %x", name, behind)
	}
}

func unseal(b []byte) []byte {
	out, _ := check.Unseal(b)
	return out
}

func TestAnswersAreNewMemory(t *testing.T) {
	for _, size := range []int{0, 1, 2, 3, 4, 5, 8, 28, 31, 32, 100, 1000} {
		given := bytes.Repeat([]byte{0x11}, size)
		wantOwnMemory(t, "Seal", given, check.Seal)
		wantOwnMemory(t, "Unseal of what was sealed", check.Seal(given), unseal)
		wantOwnMemory(t, "Unseal of what was not", given, unseal)
	}
}

// Unseal answers no part of what it was given: not even the sum stands behind its length.
func TestUnsealedHasNoSumBehindIt(t *testing.T) {
	sealed := check.Seal(bytes.Repeat([]byte{3}, 50))
	got, _ := check.Unseal(sealed)
	if behind := got[len(got):cap(got)]; bytes.Contains(behind, sealed[50:]) {
		t.Errorf("behind the length: %x", behind)
	}
}

func TestSumsChangeNothing(t *testing.T) {
	for _, size := range []int{0, 1, 3, 4, 5, 300} {
		part, whole := guarded(mixed(size))
		before := bytes.Clone(whole)
		check.Fletcher(part)
		check.Crc(part)
		check.More(7, part)
		check.Unseal(part)
		if !bytes.Equal(whole, before) {
			t.Errorf("a sum of %d bytes changed them", size)
		}
	}
}

// What is answered hangs on the arguments alone, not on sums that were asked before.
func TestSumsKeepNothing(t *testing.T) {
	b := mixed(100)
	fletcher, crc := check.Fletcher(b), check.Crc(b)
	check.More(crc, mixed(9))
	check.Unseal(mixed(30))
	check.Seal(mixed(7))
	if check.Fletcher(b) != fletcher || check.Crc(b) != crc {
		t.Error("a sum is another one, asked again")
	}
}
