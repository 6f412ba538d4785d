package slots_test

import (
	"bytes"
	"testing"

	"slabvault/api"
	"slabvault/slots"
	"slabvault/store"
)

// spare is how many bytes stand behind the length of what is handed in.
const spare = 64

// guarded tells bytes with spare room, and that same memory whole.
func guarded(b []byte) (part, whole []byte) {
	whole = joined(b, bytes.Repeat([]byte{0xee}, spare))
	return whole[:len(b)], whole
}

// scribble writes all over an answer, spare room too.
func scribble(b []byte) {
	b = b[:cap(b)]
	for i := range b {
		b[i] ^= 0x55
	}
}

// Rule 4: Load changes nothing of what it is given, its spare room neither.
func TestLoadChangesNothing(t *testing.T) {
	root := told(api.Root{Generation: 1, At: 64, Size: 9})
	for _, given := range [][]byte{nil, root[:31], root, turned(root, 100), joined(root, root), sealed(make([]byte, 28)), mixed(1, 50)} {
		part, whole := guarded(given)
		before := bytes.Clone(whole)
		slots.Load(part)
		wantBytes(t, "what Load was given", whole, before)
	}
}

// Rule 7: what lies behind the length is not read: neither is a root that is whole only there, nor is one changed by it.
func TestLoadReadsNothingBehindTheLength(t *testing.T) {
	r := api.Root{Generation: 1, At: 64, Size: 9}
	whole := joined(told(r), told(r))
	for size := range 32 {
		wantLoad(t, "a root that ends behind the length", whole[:size], api.Root{}, api.ErrShort)
	}
	for bit := 8 * 32; bit < 8*64; bit++ {
		wantLoad(t, "a root ahead of others", turned(whole, bit)[:32], r, api.OK)
	}
}

// Rule 4: each answer of Bytes is memory of its own, spare room too.
func TestBytesAreNewMemory(t *testing.T) {
	for _, r := range []api.Root{{}, {Generation: 1, At: 64, Size: 9}, {Generation: 2, At: api.MaxFile, Size: api.MaxFile}} {
		first, _ := slots.Bytes(r)
		second, _ := slots.Bytes(r)
		scribble(first)
		wantBytes(t, "an answer behind a change of another", second, told(r))
		third, _ := slots.Bytes(r)
		wantBytes(t, "an answer behind a change of those ahead", third, told(r))
	}
}

// Rule 4: a file shares no memory with what Bytes answers of the root that it was given, nor with what the file answers.
func TestPutKeepsNothing(t *testing.T) {
	r := api.Root{Generation: 1, At: 64, Size: 9}
	f := store.New(64)
	b, _ := slots.Bytes(r)
	put(t, f, r)
	scribble(b)
	scribble(f.Bytes())
	for _, raw := range f.Raws() {
		scribble(raw.Bytes)
	}
	wantBytes(t, "the file", f.Bytes(), joined(make([]byte, 32), told(r)))
	wantBest(t, "the file", f, r, true, api.OK)
}
