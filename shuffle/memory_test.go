package shuffle_test

import (
	"bytes"
	"testing"

	"slabvault/api"
)

// mark is what stands in the spare room of bytes that are handed in.
const mark = 0xee

// guarded tells bytes with spare room that is filled, and that same memory whole.
func guarded(b []byte) (part, room []byte) {
	room = append(bytes.Clone(b), bytes.Repeat([]byte{mark}, 24)...)
	return room[:len(b)], room
}

// overwrite writes all over bytes, spare room too.
func overwrite(b []byte) {
	b = b[:cap(b)]
	for i := range b {
		b[i] ^= 0x55
	}
}

// eachCall goes through calls, widths (wrong ones too) and lengths.
func eachCall(do func(c call, width int, b []byte)) {
	for _, c := range calls() {
		for _, width := range append(widths(), wrongWidths()...) {
			for n := range 33 {
				do(c, width, numbered(n))
			}
			do(c, width, numbered(4099))
		}
	}
}

// Rules 4 and 7: what is handed in is not changed, its spare room neither, and what stands there is not read.
func TestGivenBytesAreLeftAlone(t *testing.T) {
	eachCall(func(c call, width int, b []byte) {
		part, room := guarded(b)
		before := bytes.Clone(room)
		want, fault := c.do(width, b)
		if got, e := c.do(width, part); e != fault || !bytes.Equal(got, want) {
			t.Errorf("%s(%d, %s) with spare room = %s, %d, not %s, %d", c.name, width, brief(b), brief(got), e, brief(want), fault)
		}
		if !bytes.Equal(room, before) {
			t.Errorf("%s(%d, %s) changed what was handed in", c.name, width, brief(b))
		}
	})
}

// Rule 4: what is told is new memory, spare room too: writing all over it changes neither what was handed in nor what is told again.
func TestToldBytesAreNew(t *testing.T) {
	eachCall(func(c call, width int, b []byte) {
		part, room := guarded(b)
		before := bytes.Clone(room)
		first, _ := c.do(width, part)
		second, _ := c.do(width, part)
		kept := bytes.Clone(second)
		if bytes.IndexByte(second[len(second):cap(second)], mark) >= 0 {
			t.Errorf("%s(%d, %s) hands out what stood behind the length", c.name, width, brief(b))
		}
		overwrite(first)
		if !bytes.Equal(room, before) {
			t.Errorf("%s(%d, %s) tells memory that was handed in", c.name, width, brief(b))
		}
		if !bytes.Equal(second, kept) {
			t.Errorf("%s(%d, %s) tells one memory twice", c.name, width, brief(b))
		}
		overwrite(room)
		if !bytes.Equal(second, kept) {
			t.Errorf("%s(%d, %s): what is told follows what was handed in", c.name, width, brief(b))
		}
	})
}

// Rule 5: a call keeps nothing: what went ahead of it, refused or not, is not seen in it.
func TestCallsKeepNothing(t *testing.T) {
	for _, c := range calls() {
		for _, width := range widths() {
			b := falling(5*width + width/2)
			want, _ := c.do(width, b)
			for _, other := range calls() {
				other.do(width, bytes.Repeat([]byte{0xff}, 3*width+1))
				other.do(9, b)
				if got, e := c.do(width, b); e != api.OK || !bytes.Equal(got, want) {
					t.Errorf("%s(%d, %s) behind %s = %s, %d, not %s", c.name, width, brief(b), other.name, brief(got), e, brief(want))
				}
			}
		}
	}
}
