package filter_test

import (
	"bytes"
	"testing"

	"slabvault/api"
	"slabvault/filter"
)

// P16.3: the document's examples.
func TestUndoExamples(t *testing.T) {
	refuseUndo(t, pipe(summed()), []byte("ab\x01\x24\x00\xc4"), 2, api.ErrCorrupt)
	wantUndo(t, pipe(summed()), []byte("ab\x01\x24\x00\xc3"), []byte("ab"))
	wantUndo(t, pipe(shuffled(2), matched()), []byte("\x01\x00a\x84\x01"), []byte("aaaaaaaaa"))
}

// P16.3: n may be 0 to MaxChunk, and is ErrArg below and above, whatever the bytes are, good or not.
func TestUndoOfWrongCounts(t *testing.T) {
	for _, l := range short() {
		for _, b := range [][]byte{nil, []byte("abc"), {0}, make([]byte, 4), numbered(api.MaxChunk), numbered(api.MaxChunk + 1), same(0, api.MaxChunk+5)} {
			for _, n := range wrongCounts() {
				refuseUndo(t, l, b, n, api.ErrArg)
			}
		}
	}
	wantUndo(t, nil, numbered(api.MaxChunk), numbered(api.MaxChunk))
	wantUndo(t, nil, nil, nil)
	refuseUndo(t, nil, numbered(api.MaxChunk+1), api.MaxChunk+1, api.ErrArg)
	refuseUndo(t, pipe(summed()), sealed(numbered(api.MaxChunk+1)), api.MaxChunk+1, api.ErrArg)
	refuseUndo(t, pipe(summed()), sealed(numbered(api.MaxChunk+1)), api.MaxChunk, api.ErrCorrupt)
}

// P16.3: Check's error comes first, also where n is wrong and the bytes are: ErrBig of too many filters, ErrArg of wrong ones.
func TestUndoOfWrongFilters(t *testing.T) {
	for _, b := range [][]byte{nil, []byte("abc"), make([]byte, 8), same(9, api.MaxData+1)} {
		for _, n := range append(wrongCounts(), 0, 3, 4, api.MaxChunk) {
			for _, f := range wrong() {
				refuseUndo(t, pipe(f), b, n, api.ErrArg)
				refuseUndo(t, pipe(f, summed()), b, n, api.ErrArg)
				refuseUndo(t, pipe(matched(), matched(), f), b, n, api.ErrArg)
				refuseUndo(t, times(5, f), b, n, api.ErrBig)
			}
			for _, f := range some() {
				refuseUndo(t, times(5, f), b, n, api.ErrBig)
				refuseUndo(t, times(300, f), b, n, api.ErrBig)
			}
		}
	}
}

// P16.3: just n bytes are asked for: each other n is ErrCorrupt, as is the number of bytes that stand in the file, if it is another one.
func TestUndoOfEachCount(t *testing.T) {
	for _, l := range append(rows(1, all()), nil, pipe(summed(), matched()), pipe(matched(), summed()), pipe(delta(2), shuffled(3), matched(), summed())) {
		for _, b := range [][]byte{nil, {7}, numbered(19), same(3, 60)} {
			told, _ := modelApply(l, b)
			for n := range 200 {
				if n != len(b) {
					refuseUndo(t, l, told, n, api.ErrCorrupt)
				}
			}
			refuseUndo(t, l, told, api.MaxChunk, api.ErrCorrupt)
			wantUndo(t, l, told, b)
		}
	}
}

// P16.3: a sum asks for four bytes: fewer are ErrCorrupt, just these are the sum of none.
func TestUndoOfFewBytesWithASum(t *testing.T) {
	for _, l := range [][]api.Filter{pipe(summed()), pipe(shuffled(2), summed()), pipe(matched(), summed()), times(2, summed())} {
		for n := range 4 {
			for _, b := range [][]byte{make([]byte, n), same(1, n), same(255, n)} {
				corrupt(t, l, b)
				corrupt(t, l, b[:n:n])
			}
		}
		corrupt(t, l, nil)
	}
	wantUndo(t, pipe(summed()), make([]byte, 4), nil)
	wantUndo(t, pipe(delta(8), summed()), make([]byte, 4), nil)
	corrupt(t, times(2, summed()), make([]byte, 4))
	corrupt(t, pipe(matched(), summed()), make([]byte, 4))
	wantUndo(t, times(2, summed()), make([]byte, 8), nil)
	for n := range 8 {
		corrupt(t, times(2, summed()), make([]byte, n))
	}
	for _, b := range [][]byte{{0, 0, 0, 1}, {1, 0, 0, 0}, {0, 1, 0, 1}, {255, 255, 255, 255}, {0, 0, 255, 255}, {255, 255, 0, 0}} {
		corrupt(t, pipe(summed()), b)
	}
}

// P16.3: a sum in the other order of bytes, of other bytes, ahead of them, or with its two numbers about, is none.
func TestUndoOfOtherSums(t *testing.T) {
	for n := 1; n < 60; n++ {
		b := numbered(n)
		s := modelSum(b)
		corrupt(t, pipe(summed()), join(b, []byte{s[3], s[2], s[1], s[0]}))
		corrupt(t, pipe(summed()), join(s, b))
		corrupt(t, pipe(summed()), join(b, s, []byte{0}))
		corrupt(t, pipe(summed()), join([]byte{9}, b, s))
		corrupt(t, pipe(summed()), join(b, modelSum(b[1:])))
		corrupt(t, pipe(summed()), join(b, modelSum(s)))
		if n > 1 {
			corrupt(t, pipe(summed()), join(b, []byte{s[2], s[3], s[0], s[1]}))
		}
	}
	nought := same(255, 257) // both numbers of its sum are 0, for which 65535 is no other way to say it
	both(t, pipe(summed()), nought, join(nought, make([]byte, 4)))
	corrupt(t, pipe(summed()), join(nought, []byte{255, 255, 0, 0}))
	corrupt(t, pipe(summed()), join(nought, []byte{0, 0, 255, 255}))
	corrupt(t, pipe(summed()), join(nought, []byte{255, 255, 255, 255}))
}

// P16.3: packings that are none are ErrCorrupt, as are those that end early, or copy what was not told.
func TestUndoOfNoPackings(t *testing.T) {
	for _, l := range [][]api.Filter{pipe(matched()), pipe(delta(1), matched()), pipe(summed(), matched()), times(2, matched())} {
		for _, b := range []string{"", "\x02", "\x02abc", "\xff", "\x01\x80\x01", "\x01\x05a", "\x01\x00a\x84\x02", "\x01\x00a\x84\x00", "\x01\x00a\x84"} {
			corrupt(t, l, []byte(b))
			corrupt(t, append(append([]api.Filter(nil), l...), shuffled(1)), []byte(b))
			corrupt(t, append(append([]api.Filter(nil), l...), summed()), sealed([]byte(b)))
		}
	}
}

// alike tells a packing of so many bytes that are all alike, however many.
func alike(x byte, n int) []byte {
	out := []byte{1, 0, x}
	for n--; n >= 4; {
		count := min(n, 131)
		out = append(out, byte(124+count), 1)
		n -= count
	}
	for range n {
		out = append(out, 0, x)
	}
	return out
}

// P16.3: packings of more than MaxData bytes are ErrCorrupt, not ErrBig, whatever n is; so are those of fewer, if they are not just n bytes.
func TestUndoOfGreatPackings(t *testing.T) {
	for _, n := range []int{api.MaxChunk + 1, api.MaxChunk + 17, 2*api.MaxChunk + 1, api.MaxData - 1, api.MaxData, api.MaxData + 1, api.MaxData + 4096, 1 << 20} {
		for _, p := range [][]byte{alike(5, n), join([]byte{0}, same(5, n)), singles(same(5, n))} {
			for _, l := range [][]api.Filter{pipe(matched()), pipe(shuffled(4), matched()), pipe(delta(4), matched()), pipe(summed(), matched()), times(2, matched())} {
				corrupt(t, l, p)
				corrupt(t, append(append([]api.Filter(nil), l...), summed()), sealed(p))
				for _, count := range []int{0, 1, api.MaxChunk - 1, api.MaxChunk} {
					refuseUndo(t, l, p, count, api.ErrCorrupt)
				}
			}
		}
	}
	for n := api.MaxChunk - 2; n <= api.MaxChunk; n++ {
		wantUndo(t, pipe(matched()), alike(5, n), same(5, n))
		wantUndo(t, pipe(matched()), join([]byte{0}, same(5, n)), same(5, n))
	}
}

// P16.3: between filters there may be more than MaxChunk bytes, as packings within packings show, which need not be those that Apply tells.
func TestUndoOfPackingsWithinPackings(t *testing.T) {
	for _, n := range []int{1, 9, 300, api.MaxChunk} {
		b, p := numbered(n), numbered(n)
		for depth := 1; depth <= api.MaxFilters; depth++ {
			p = singles(p)
			wantUndo(t, times(depth, matched()), p, b)
			if depth > 1 {
				refuseUndo(t, times(depth-1, matched()), p, n, api.ErrCorrupt)
			}
			if depth < api.MaxFilters {
				wantUndo(t, append(times(depth, matched()), summed()), sealed(p), b)
				wantUndo(t, append(times(depth, matched()), shuffled(1)), p, b)
				told, _ := modelApply(pipe(delta(2)), b)
				q := told
				for range depth {
					q = singles(q)
				}
				wantUndo(t, append(pipe(delta(2)), times(depth, matched())...), q, b)
			}
		}
	}
}

// P16.3: a sum is taken off ahead of what stands in front of it, and what it is the sum of is what that filter told.
func TestUndoTakesTheLastFilterFirst(t *testing.T) {
	b := numbered(40)
	wantUndo(t, pipe(summed(), shuffled(4)), modelDo(shuffled(4), sealed(b)), b)
	wantUndo(t, pipe(shuffled(4), summed()), sealed(modelDo(shuffled(4), b)), b)
	corrupt(t, pipe(shuffled(4), summed()), modelDo(shuffled(4), sealed(b)))
	corrupt(t, pipe(summed(), shuffled(4)), sealed(modelDo(shuffled(4), b)))
	for _, l := range rows(2, all()) {
		told, _ := modelApply(l, b)
		wantUndo(t, l, told, b)
		other := pipe(l[1], l[0])
		want, fault := modelUndo(other, told, len(b))
		if got, e := filter.Undo(other, told, len(b)); e != fault || !bytes.Equal(got, want) {
			t.Errorf("Undo(%s, %s) = %s, %d, not %s, %d", listed(other), brief(told), brief(got), e, brief(want), fault)
		}
	}
}

// P16.3: bytes that no filter told are undone too, if the filters ask for nothing of them: shuffle and delta take any, of any number, but n of them.
func TestUndoOfAnyBytes(t *testing.T) {
	for _, l := range [][]api.Filter{nil, pipe(shuffled(8)), pipe(delta(3)), pipe(delta(8), shuffled(2), delta(1), shuffled(5))} {
		for _, n := range []int{0, 1, 7, 8, 9, 100, api.MaxChunk} {
			want, _ := modelUndo(l, numbered(n), n)
			wantUndo(t, l, numbered(n), want)
		}
		for _, n := range []int{api.MaxChunk + 1, api.MaxData, api.MaxData + 1, 1 << 20} {
			refuseUndo(t, l, same(1, n), api.MaxChunk, api.ErrCorrupt)
			refuseUndo(t, l, same(1, n), 0, api.ErrCorrupt)
		}
	}
}
