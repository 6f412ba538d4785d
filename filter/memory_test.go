package filter_test

import (
	"bytes"
	"slices"
	"testing"

	"slabvault/api"
	"slabvault/filter"
)

// call is one of the package's that tells bytes.
type call struct {
	name string
	do   func(l []api.Filter, b []byte) ([]byte, api.Errno)
}

// calls tells both, Undo with some numbers of bytes.
func calls() []call {
	undo := func(n int) func(l []api.Filter, b []byte) ([]byte, api.Errno) {
		return func(l []api.Filter, b []byte) ([]byte, api.Errno) { return filter.Undo(l, b, n) }
	}
	return []call{{"Apply", filter.Apply}, {"Undo of 23", undo(23)}, {"Undo of 0", undo(0)}, {"Undo of 27", undo(27)}, {"Undo of -1", undo(-1)}}
}

// samples are bytes of all sorts, for either call, good and bad, for these filters.
func samples(l []api.Filter) [][]byte {
	out := [][]byte{nil, {}, {0}, {1}, make([]byte, 4), numbered(23), numbered(27), sealed(numbered(23)), same('a', 300), alike(3, 23), numbered(api.MaxChunk + 1)}
	for _, b := range [][]byte{nil, numbered(23), same(9, 23), numbered(27)} {
		told, _ := modelApply(l, b)
		out = append(out, told)
	}
	return out
}

// eachCall goes through calls, filters (wrong ones, and too many too) and samples.
func eachCall(do func(c call, l []api.Filter, b []byte)) {
	lists := append(short(), pipe(delta(2), shuffled(2), matched(), summed()), times(4, summed()), times(5, summed()), pipe(summed(), shuffled(9)), pipe(api.Filter{}))
	for _, c := range calls() {
		for _, l := range lists {
			for _, b := range samples(l) {
				do(c, l, b)
			}
		}
	}
}

// mark is what stands in the spare room of bytes that are handed in.
const mark = 0xee

// guarded tells bytes with spare room that is filled, and that same memory whole.
func guarded(b []byte) (part, room []byte) {
	room = append(bytes.Clone(b), bytes.Repeat([]byte{mark}, 24)...)
	return room[:len(b)], room
}

// hedged tells filters with spare room in which other ones stand, and that same memory whole.
func hedged(l []api.Filter) (part, room []api.Filter) {
	room = append(slices.Clone(l), summed(), shuffled(9), matched(), api.Filter{Kind: -1, Width: mark}, delta(1))
	return room[:len(l)], room
}

// overwrite writes all over bytes, spare room too.
func overwrite(b []byte) {
	b = b[:cap(b)]
	for i := range b {
		b[i] ^= 0x55
	}
}

// Rules 4 and 7: what is handed in is not changed, its spare room neither, and what stands there is not read.
func TestGivenMemoryIsLeftAlone(t *testing.T) {
	eachCall(func(c call, l []api.Filter, b []byte) {
		part, room := guarded(b)
		few, many := hedged(l)
		before, were := bytes.Clone(room), slices.Clone(many)
		want, fault := c.do(slices.Clone(l), bytes.Clone(b))
		if got, e := c.do(few, part); e != fault || !bytes.Equal(got, want) {
			t.Errorf("%s of %s, %s with spare room = %s, %d, not %s, %d", c.name, listed(l), brief(b), brief(got), e, brief(want), fault)
		}
		if !bytes.Equal(room, before) || !slices.Equal(many, were) {
			t.Errorf("%s of %s, %s changed what was handed in", c.name, listed(l), brief(b))
		}
		if e := filter.Check(few); e != modelCheck(l) || !slices.Equal(many, were) {
			t.Errorf("Check(%s) with spare room = %d", listed(l), e)
		}
	})
}

// Rule 4: what is told is new memory, spare room too, also where there is no filter: writing all over it changes neither what was handed in nor what is told again.
func TestToldBytesAreNew(t *testing.T) {
	eachCall(func(c call, l []api.Filter, b []byte) {
		part, room := guarded(b)
		before := bytes.Clone(room)
		first, _ := c.do(l, part)
		second, _ := c.do(l, part)
		kept := bytes.Clone(second)
		for _, x := range second[len(second):cap(second)] {
			if x != 0 {
				t.Fatalf("%s of %s, %s hands out what stood behind a length", c.name, listed(l), brief(b))
			}
		}
		overwrite(first)
		if !bytes.Equal(room, before) {
			t.Errorf("%s of %s, %s tells memory that was handed in", c.name, listed(l), brief(b))
		}
		if !bytes.Equal(second, kept) {
			t.Errorf("%s of %s, %s tells one memory twice", c.name, listed(l), brief(b))
		}
		overwrite(room)
		if !bytes.Equal(second, kept) {
			t.Errorf("%s of %s, %s: what is told follows what was handed in", c.name, listed(l), brief(b))
		}
	})
}

// Rule 5: a call keeps nothing: what went ahead of it, refused or not, is not seen in it.
func TestCallsKeepNothing(t *testing.T) {
	eachCall(func(c call, l []api.Filter, b []byte) {
		want, fault := c.do(l, b)
		for _, other := range calls() {
			for _, ahead := range [][]api.Filter{nil, pipe(summed(), shuffled(8)), pipe(delta(9)), times(5, matched())} {
				other.do(ahead, same('a', 200))
				if got, e := c.do(l, b); e != fault || !bytes.Equal(got, want) {
					t.Errorf("%s of %s, %s behind %s = %s, %d, not %s, %d", c.name, listed(l), brief(b), other.name, brief(got), e, brief(want), fault)
				}
			}
		}
	})
}
