package match_test

import (
	"bytes"
	"testing"

	"slabvault/api"
	"slabvault/match"
)

// call is one of the package's.
type call struct {
	name string
	do   func(b []byte) ([]byte, api.Errno)
}

// calls tells all of them, Unpack with some mosts.
func calls() []call {
	unpack := func(most int) func(b []byte) ([]byte, api.Errno) {
		return func(b []byte) ([]byte, api.Errno) { return match.Unpack(b, most) }
	}
	return []call{{"Pack", match.Pack}, {"Unpack up to MaxData", unpack(api.MaxData)}, {"Unpack up to 20", unpack(20)}, {"Unpack up to -1", unpack(-1)}}
}

// samples are bytes of all sorts, for either call, good and bad.
func samples() [][]byte {
	d := dice(10)
	l := [][]byte{nil, {}, {0}, {1}, {2}, same('a', 9), same('a', 300), rising(3), rising(300), rising(api.MaxData + 1), same(1, api.MaxData+1), d.mixed(5000)}
	l = append(l, plain(nil), plain([]byte("abc")), plain(rising(400)), tokens(word("a"), copied(8, 1)), tokens(word("abc"), copied(131, 2), word("xyz")))
	l = append(l, tokens(runs(rising(300)), copied(99, 255)), tokens(copied(4, 1)), tokens(word("abc"), copied(4, 0)), tokens(word("abc"), []byte{200}), tokens([]byte("\x05a")))
	for range 30 {
		l = append(l, d.mixed(d.below(300)), d.thrown())
	}
	return l
}

// mark is what stands in the spare room of bytes that are handed in.
const mark = 0xee

// guarded tells bytes with spare room that is filled, and that same memory whole.
func guarded(b []byte) (part, room []byte) {
	room = append(bytes.Clone(b), bytes.Repeat([]byte{mark}, 200)...)
	return room[:len(b)], room
}

// overwrite writes all over bytes, spare room too.
func overwrite(b []byte) {
	b = b[:cap(b)]
	for i := range b {
		b[i] ^= 0x55
	}
}

// eachCall goes through calls and samples.
func eachCall(do func(c call, b []byte)) {
	for _, c := range calls() {
		for _, b := range samples() {
			do(c, b)
		}
	}
}

// Rules 4 and 7: what is handed in is not changed, its spare room neither, and what stands there is not read.
func TestGivenBytesAreLeftAlone(t *testing.T) {
	eachCall(func(c call, b []byte) {
		part, room := guarded(b)
		before := bytes.Clone(room)
		want, fault := c.do(bytes.Clone(b))
		if got, e := c.do(part); e != fault || !bytes.Equal(got, want) {
			t.Errorf("%s of %s with spare room = %s, %d, not %s, %d", c.name, brief(b), brief(got), e, brief(want), fault)
		}
		if !bytes.Equal(room, before) {
			t.Errorf("%s of %s changed what was handed in", c.name, brief(b))
		}
	})
}

// Rule 7: a token that would be whole with the spare room ends early, as it does where there is none; a copy takes nothing from there, and bytes go on no further.
func TestSpareRoomIsNotRead(t *testing.T) {
	whole := tokens(word("abc"), copied(5, 2), word("xy"))
	for n := range whole {
		want, fault := match.Unpack(bytes.Clone(whole[:n]), api.MaxData)
		if got, e := match.Unpack(whole[:n], api.MaxData); e != fault || !bytes.Equal(got, want) {
			t.Errorf("Unpack(%s) ahead of others = %s, %d, not %s, %d", brief(whole[:n]), brief(got), e, brief(want), fault)
		}
	}
	alike := same('a', 300)
	for n := range alike {
		wantPack(t, alike[:n], modelPack(bytes.Clone(alike[:n])))
	}
}

// Rule 4: what is told is new memory, spare room too: writing all over it changes neither what was handed in nor what is told again.
func TestToldBytesAreNew(t *testing.T) {
	eachCall(func(c call, b []byte) {
		part, room := guarded(b)
		before := bytes.Clone(room)
		first, _ := c.do(part)
		second, _ := c.do(part)
		kept := bytes.Clone(second)
		for _, x := range second[len(second):cap(second)] {
			if x == mark {
				t.Fatalf("%s of %s hands out what stood behind the length", c.name, brief(b))
			}
		}
		overwrite(first)
		if !bytes.Equal(room, before) {
			t.Errorf("%s of %s tells memory that was handed in", c.name, brief(b))
		}
		if !bytes.Equal(second, kept) {
			t.Errorf("%s of %s tells one memory twice", c.name, brief(b))
		}
		overwrite(room)
		if !bytes.Equal(second, kept) {
			t.Errorf("%s of %s: what is told follows what was handed in", c.name, brief(b))
		}
	})
}

// Rule 5: a call keeps nothing: what went ahead of it, refused or not, is not seen in it.
func TestCallsKeepNothing(t *testing.T) {
	eachCall(func(c call, b []byte) {
		want, fault := c.do(b)
		for _, other := range calls() {
			for _, x := range [][]byte{same('a', 200), tokens(word("zzz"), copied(90, 1)), {2}, tokens(copied(4, 9))} {
				other.do(x)
				if got, e := c.do(b); e != fault || !bytes.Equal(got, want) {
					t.Errorf("%s of %s behind %s = %s, %d, not %s, %d", c.name, brief(b), other.name, brief(got), e, brief(want), fault)
				}
			}
		}
	})
}
