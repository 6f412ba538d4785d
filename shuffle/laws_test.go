package shuffle_test

import (
	"bytes"
	"slices"
	"testing"

	"slabvault/api"
)

// wantBack holds that each of two calls undoes the other.
func wantBack(t *testing.T, there, back call, width int, b []byte) {
	t.Helper()
	for _, x := range [][2]call{{there, back}, {back, there}} {
		told, e := x[0].do(width, b)
		if e != api.OK {
			t.Errorf("%s(%d, %s): %d", x[0].name, width, brief(b), e)
		}
		x[1].want(t, width, told, b)
	}
}

// P14.3: each undoes the other, either way, of each length.
func TestBackOfEachLength(t *testing.T) {
	for _, width := range widths() {
		for _, n := range lengths(width) {
			for _, b := range [][]byte{numbered(n), falling(n), make([]byte, n), bytes.Repeat([]byte{0xff}, n), bytes.Repeat([]byte{0x80}, n)} {
				wantBack(t, shuffled(), unshuffled(), width, b)
				wantBack(t, delta(), undelta(), width, b)
			}
		}
	}
}

// P14.3: each undoes the other, either way, of numbers from the edges.
func TestBackOfEdges(t *testing.T) {
	for _, width := range widths() {
		l := edges(width)
		for range l {
			l = append(l[1:], l[0])
			turned := slices.Clone(l)
			slices.Reverse(turned)
			for _, b := range [][]byte{low(width, l...), low(width, turned...), append(low(width, l...), numbered(width-1)...)} {
				wantBack(t, shuffled(), unshuffled(), width, b)
				wantBack(t, delta(), undelta(), width, b)
			}
		}
	}
}

// P14.4: Shuffle has each byte as often as the bytes have it, and so has Unshuffle, which is its other way.
func TestShuffleKeepsEachByte(t *testing.T) {
	d := dice(144)
	for _, width := range widths() {
		for _, n := range append(lengths(width), 1000, 4096, 4099) {
			for _, b := range [][]byte{numbered(n), falling(n), d.bytes(n)} {
				want := slices.Sorted(slices.Values(b))
				for _, c := range []call{shuffled(), unshuffled()} {
					got, e := c.do(width, b)
					slices.Sort(got)
					if e != api.OK || !bytes.Equal(got, want) {
						t.Errorf("%s(%d, %s) has other bytes: %s, %d", c.name, width, brief(b), brief(got), e)
					}
				}
			}
		}
	}
}

// P14.4: bytes that are all alike are left as they are.
func TestShuffleLeavesBytesThatAreAlike(t *testing.T) {
	for _, width := range widths() {
		for x := range 256 {
			for _, n := range []int{1, width - 1, width, width + 1, 2*width - 1, 5 * width, 6*width - 1} {
				b := bytes.Repeat([]byte{byte(x)}, n)
				shuffled().want(t, width, b, b)
				unshuffled().want(t, width, b, b)
			}
		}
		b := bytes.Repeat([]byte{7}, api.MaxData)
		shuffled().want(t, width, b, b)
	}
}

// rising tells numbers of a width that rise by one step each, modulo 2^(8 width).
func rising(first, step uint64, count, width int) []uint64 {
	var l []uint64
	for range count {
		l = append(l, first)
		first = more(first, step, width)
	}
	return l
}

// P14.5: of numbers that rise by one step (by 1, by 0, by one that wraps at once or now and then) Delta has the first one, and then the step alone; the rest stays.
func TestDeltaOfSteps(t *testing.T) {
	for _, width := range widths() {
		for _, first := range edges(width) {
			for _, step := range edges(width) {
				for count := 1; count <= 5; count++ {
					rest := numbered((count + int(step%8)) % width)
					told := append([]uint64{first}, slices.Repeat([]uint64{step}, count-1)...)
					b := append(low(width, rising(first, step, count, width)...), rest...)
					delta().want(t, width, b, append(low(width, told...), rest...))
				}
			}
		}
	}
}

// P14.5: so it is in a long row that goes round its range, several times where the width is small.
func TestDeltaOfManySteps(t *testing.T) {
	for _, width := range widths() {
		for _, step := range edges(width) {
			b := low(width, rising(step/3, step, 1000, width)...)
			got, e := delta().do(width, b)
			if e != api.OK || len(got) != len(b) {
				t.Fatalf("Delta(%d, %s) = %s, %d", width, brief(b), brief(got), e)
			}
			for i := 2 * width; i < len(got); i += width {
				if !bytes.Equal(got[i:i+width], got[width:2*width]) {
					t.Fatalf("Delta of numbers of width %d that rise by %d: the one at %d is %x, not %x", width, step, i, got[i:i+width], got[width:2*width])
				}
			}
		}
	}
}

// P14.3, P14.5: of bytes that are all alike Delta has noughts behind the first number, and Undelta leads back.
func TestDeltaOfBytesThatAreAlike(t *testing.T) {
	for _, width := range widths() {
		for _, x := range []byte{0, 1, 0x7f, 0x80, 0xfe, 0xff} {
			b := bytes.Repeat([]byte{x}, 5*width)
			want := append(bytes.Repeat([]byte{x}, width), make([]byte, 4*width)...)
			delta().want(t, width, b, want)
			undelta().want(t, width, want, b)
		}
	}
}

// P14.1 to P14.5: whatever bytes come, all calls answer what the second reading says, and lead back.
func TestAnyBytesAgainstTheModel(t *testing.T) {
	d := dice(14)
	for range 20000 {
		width, b := 1+d.below(8), d.bytes(d.below(80))
		for _, c := range calls() {
			c.wantModel(t, width, b)
		}
		wantBack(t, shuffled(), unshuffled(), width, b)
		wantBack(t, delta(), undelta(), width, b)
	}
}
