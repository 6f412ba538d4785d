package heap_test

import (
	"bytes"
	"slices"
	"testing"

	"slabvault/api"
	"slabvault/heap"
)

// spare is how many bytes stand behind the length of what is handed in.
const spare = 64

// guarded tells bytes with spare room, and that same memory whole.
func guarded(b []byte) (part, whole []byte) {
	whole = append(append([]byte{}, b...), bytes.Repeat([]byte{0xee}, spare)...)
	return whole[:len(b)], whole
}

// scribble writes all over bytes, spare room too.
func scribble(b []byte) {
	b = b[:cap(b)]
	for i := range b {
		b[i] ^= 0x55
	}
}

// wantNoLeak asks that nothing stands behind an answer's length that stood behind an argument's.
func wantNoLeak(t *testing.T, what string, b []byte) {
	t.Helper()
	if behind := b[len(b):cap(b)]; bytes.IndexByte(behind, 0xee) >= 0 {
		t.Errorf("%s hands out what stood behind the length: %x", what, behind)
	}
}

// thingSizes are lengths for which memory is laid out in many ways.
var thingSizes = []int{0, 1, 3, 8, 31, 32, 33, 1000, api.MaxBlob - 1, api.MaxBlob}

// Rule 4: Add neither changes what it is given nor keeps it.
func TestAddedBytesAreLeftAlone(t *testing.T) {
	h, m := heap.New(), model{}
	for id, size := range thingSizes {
		part, whole := guarded(bytes.Repeat([]byte{0x11}, size))
		before := bytes.Clone(whole)
		wantAddOf(t, h, part, id)
		m[id] = string(part)
		x, _ := h.Get(id)
		wantNoLeak(t, "Get", x)
		wantNoLeak(t, "Bytes", h.Bytes())
		if !bytes.Equal(whole, before) {
			t.Fatalf("%d bytes that were given are changed", size)
		}
		scribble(whole)
		wantModel(t, h, m)
	}
}

// wantAddOf asks for a thing's number, the very bytes being handed in.
func wantAddOf(t *testing.T, h *heap.Heap, b []byte, want int) {
	t.Helper()
	if id, e := h.Add(b); id != want || e != api.OK {
		t.Fatalf("Add of %d bytes: %d, error %d; want %d", len(b), id, int(e), want)
	}
}

// Rule 4: one run of bytes, added twice and written over between, makes two things.
func TestOneMemoryAddedTwice(t *testing.T) {
	h, b := heap.New(), []byte("abc")
	wantAddOf(t, h, b, 0)
	b[0] = 'x'
	wantAddOf(t, h, b, 1)
	wantAddOf(t, h, b[:2], 2)
	copy(b, "zzz")
	wantModel(t, h, model{0: "abc", 1: "xbc", 2: "xb"})
}

// Rule 4: what is refused is left alone too.
func TestRefusedBytesAreLeftAlone(t *testing.T) {
	part, whole := guarded(make([]byte, api.MaxBlob+1))
	before := bytes.Clone(whole)
	heap.New().Add(part)
	(*heap.Heap)(nil).Add(part)
	heap.Load(part)
	if !bytes.Equal(whole, before) {
		t.Error("bytes that were refused are changed")
	}
}

// Rule 4: what Get, Bytes and Ids tell is new memory each time.
func TestAnswersAreNewMemory(t *testing.T) {
	h, m := heap.New(), model{}
	for id, size := range thingSizes {
		m[id] = string(bytes.Repeat([]byte{byte(id + 1)}, size))
		wantAdd(t, h, m[id], id, api.OK)
	}
	for id := range m {
		first, _ := h.Get(id)
		second, _ := h.Get(id)
		scribble(first)
		if string(second) != m[id] {
			t.Errorf("Get(%d) tells one memory twice", id)
		}
	}
	first, second := h.Bytes(), h.Bytes()
	scribble(first)
	if !bytes.Equal(second, sealed(plainOf(m))) {
		t.Error("Bytes tells one memory twice")
	}
	ids, others := h.Ids(), h.Ids()
	for i := range ids[:cap(ids)] {
		ids[:cap(ids)][i] = -7
	}
	if !slices.Equal(others, h.Ids()) || slices.Contains(others, -7) {
		t.Error("Ids tells one memory twice")
	}
	wantModel(t, h, m)
}

// Rule 4: Load neither changes what it is given nor keeps it, nor do two heaps of the same bytes share any.
func TestLoadedBytesAreLeftAlone(t *testing.T) {
	for _, m := range someModels() {
		part, whole := guarded(sealed(plainOf(m)))
		before := bytes.Clone(whole)
		h, g := loaded(t, part), loaded(t, part)
		if !bytes.Equal(whole, before) {
			t.Fatal("Load changed what it was given")
		}
		scribble(whole)
		for id := range m {
			x, _ := h.Get(id)
			wantNoLeak(t, "Get", x)
			scribble(x)
		}
		scribble(h.Bytes())
		wantModel(t, h, m)
		for id := range m {
			wantDrop(t, h, id, api.OK)
		}
		wantModel(t, g, m)
	}
}

// Rule 7: what lies behind the length is not read.
func TestNothingBehindTheLengthIsRead(t *testing.T) {
	b := sealed(plainOf(model{0: "a", 2: "bc"}))
	wantNoHeap(t, b[:len(b)-1], api.ErrCorrupt)
	wantNoHeap(t, b[:3], api.ErrShort)
	wantModel(t, loaded(t, append(bytes.Clone(b), 1, 2, 3)[:len(b)]), model{0: "a", 2: "bc"})
	// A thing that ends beyond what was sealed, but not beyond its memory.
	short := sealed(plain(1, entry("abcd")[:7]))
	wantNoHeap(t, append(short, "cdefgh"...)[:len(short)], api.ErrCorrupt)
}
