package store_test

import (
	"bytes"
	"testing"

	"slabvault/api"
	"slabvault/store"
)

// spare is how many bytes stand behind the length of what is handed in.
const spare = 64

// guarded tells bytes with spare room, and that same memory whole.
func guarded(b []byte) (part, whole []byte) {
	whole = append(append([]byte{}, b...), bytes.Repeat([]byte{0xee}, spare)...)
	return whole[:len(b)], whole
}

// scribble writes all over an answer, spare room too.
func scribble(b []byte) {
	b = b[:cap(b)]
	for i := range b {
		b[i] ^= 0x55
	}
}

// wantNoLeak asks that nothing stands behind an answer's length that stood behind an argument's.
func wantNoLeak(t *testing.T, what string, b []byte) {
	t.Helper()
	if behind := b[len(b):cap(b)]; bytes.IndexByte(behind, 0xee) >= 0 {
		t.Errorf("%s hands out what stood behind the length: %x", what, behind)
	}
}

// Rule 4: Of and Write neither change what they are given nor keep it.
func TestGivenBytesAreLeftAlone(t *testing.T) {
	for _, size := range []int{0, 1, 15, 16, 17, 40, 64} {
		part, whole := guarded(bytes.Repeat([]byte{0x11}, size))
		before := bytes.Clone(whole)
		f := of(t, part, 200)
		write(t, f, size, part)
		write(t, f, 0, part)
		plan(t, f, 1)
		f.Write(0, part)
		f.Start()
		plan(t, f, 100)
		write(t, f, f.Len(), bytes.Repeat([]byte{0x22}, 20))
		if !bytes.Equal(whole, before) {
			t.Fatalf("%d bytes that were given are changed", size)
		}
		seen := look(f)
		scribble(whole)
		wantLooks(t, "behind a change of what was given", f, seen)
		wantNoLeak(t, "Bytes", f.Bytes())
		for _, raw := range f.Raws() {
			wantNoLeak(t, "Raws", raw.Bytes)
		}
	}
}

// Rule 4: what is handed out is new memory each time.
func TestAnswersAreNewMemory(t *testing.T) {
	for _, size := range []int{0, 1, 15, 16, 17, 40, 64} {
		f := of(t, mixed(1, 10), 200)
		write(t, f, 5, mixed(2, size))
		write(t, f, f.Len(), mixed(3, size))
		seen := look(f)
		for n := range f.Len() + 1 {
			got, e := f.Read(0, n)
			want(t, "Read", e, api.OK)
			scribble(got)
			got, e = f.Read(f.Len()-n, n)
			want(t, "Read", e, api.OK)
			scribble(got)
		}
		scribble(f.Bytes())
		scribbleRaws(f.Raws())
		wantLooks(t, "behind a change of what was answered", f, seen)
	}
}

// scribbleRaws writes all over raw writes, and over the list of them.
func scribbleRaws(raws []api.Raw) {
	for _, raw := range raws {
		scribble(raw.Bytes)
	}
	raws = raws[:cap(raws)]
	for i := range raws {
		raws[i] = api.Raw{At: -1}
	}
}

// Rule 4: no two lists of one answer share memory, and no two answers.
func TestListsOfRawsStandApart(t *testing.T) {
	f := store.New(200)
	write(t, f, 0, mixed(1, 70))
	first, second := f.Raws(), look(f).raws
	for i, raw := range first {
		scribble(raw.Bytes)
		for k, other := range first[i+1:] {
			wantBytes(t, "another of one answer", other.Bytes, second[i+1+k].Bytes)
		}
	}
	wantRaws(t, "another answer", f.Raws(), second)
}

// Rule 4: a copy shares nothing that can be seen with what it was made of, nor do their answers.
func TestCopiesAnswerTheirOwn(t *testing.T) {
	f := of(t, mixed(1, 10), 200)
	write(t, f, 5, mixed(2, 40))
	g := f.Copy()
	seen := look(f)
	scribble(f.Bytes())
	scribbleRaws(f.Raws())
	scribble(g.Bytes())
	scribbleRaws(g.Raws())
	wantLooks(t, "the file", f, seen)
	wantLooks(t, "its copy", g, seen)
}

// Rule 5: what is answered hangs on no other file.
func TestFilesStandApart(t *testing.T) {
	b := mixed(1, 20)
	f, g := of(t, b, 100), of(t, b, 100)
	seen := look(g)
	write(t, f, 3, mixed(2, 50))
	plan(t, f, 0)
	f.Write(0, b)
	wantLooks(t, "another file of the same bytes", g, seen)
}
