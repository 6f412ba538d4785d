package shuffle_test

import (
	"bytes"
	"testing"
)

// P14.2: the document's examples, and others that can be read.
func TestDeltaTexts(t *testing.T) {
	for _, x := range []struct {
		width       int
		plain, told string
	}{
		{1, "\x05\x07\x06", "\x05\x02\xff"}, {2, "\x01\x00\x00\x01\x09", "\x01\x00\xff\x00\x09"},
		{1, "", ""}, {1, "\xff", "\xff"}, {1, "\xff\x00", "\xff\x01"}, {1, "\x00\xff", "\x00\xff"}, {1, "\x80\x7f\x80", "\x80\xff\x01"}, {1, "\x00\x80\x00", "\x00\x80\x80"},
		{2, "\x00\x01\x01\x00", "\x00\x01\x01\xff"}, {2, "\xff\xff\x00\x00", "\xff\xff\x01\x00"}, {2, "\x00\x00\xff\xff\x07", "\x00\x00\xff\xff\x07"}, {2, "\x00\x80\x00\x00", "\x00\x80\x00\x80"},
		{3, "\x01\x00\x00\x00\x00\x00", "\x01\x00\x00\xff\xff\xff"}, {3, "\x00\x00\x01\xff\xff\x00ab", "\x00\x00\x01\xff\xff\xffab"}, {4, "\xff\xff\xff\xff\x01\x00\x00\x00abc", "\xff\xff\xff\xff\x02\x00\x00\x00abc"},
		{5, "\x00\x00\x00\x00\x01\xff\xff\xff\xff\x00", "\x00\x00\x00\x00\x01\xff\xff\xff\xff\xff"}, {6, "\x02\x00\x00\x00\x00\x00\x01\x00\x00\x00\x00\x00abcde", "\x02\x00\x00\x00\x00\x00\xff\xff\xff\xff\xff\xffabcde"},
		{7, "\x00\x00\x00\x00\x00\x00\x80\x00\x00\x00\x00\x00\x00\x00", "\x00\x00\x00\x00\x00\x00\x80\x00\x00\x00\x00\x00\x00\x80"},
		{8, "\x01\x00\x00\x00\x00\x00\x00\x00\x00\x00\x00\x00\x00\x00\x00\x00x", "\x01\x00\x00\x00\x00\x00\x00\x00\xff\xff\xff\xff\xff\xff\xff\xffx"}, {8, "\xff\xff\xff\xff\xff\xff\xff\xff\x01\x00\x00\x00\x00\x00\x00\x00", "\xff\xff\xff\xff\xff\xff\xff\xff\x02\x00\x00\x00\x00\x00\x00\x00"},
		{8, "abcdefgh", "abcdefgh"}, {8, "abcdefg", "abcdefg"}, {2, "a", "a"}, {2, "ab", "ab"}, {2, "abx", "abx"},
	} {
		delta().want(t, x.width, []byte(x.plain), []byte(x.told))
		undelta().want(t, x.width, []byte(x.told), []byte(x.plain))
	}
}

// P14.2: all lengths up to some numbers with the longest rest, of each width, against the second reading.
func TestDeltaOfEachLength(t *testing.T) {
	for _, width := range widths() {
		for _, n := range lengths(width) {
			for _, b := range [][]byte{numbered(n), falling(n), bytes.Repeat([]byte{0xff}, n)} {
				delta().wantModel(t, width, b)
				undelta().wantModel(t, width, b)
			}
		}
	}
}

// P14.2: fewer bytes than one number, just one number, and one with any rest are what they were.
func TestDeltaOfAtMostOneNumber(t *testing.T) {
	for _, width := range widths() {
		for n := range 2 * width {
			for _, b := range [][]byte{numbered(n), falling(n), bytes.Repeat([]byte{0xff}, n)} {
				delta().want(t, width, b, b)
				undelta().want(t, width, b, b)
			}
		}
	}
}

// P14.2: each two numbers from the edges of each width, those below 0 apart and those with the highest bit among them, with each rest.
func TestDeltaOfEachTwoEdges(t *testing.T) {
	for _, width := range widths() {
		for _, a := range edges(width) {
			for _, b := range edges(width) {
				plain, told := low(width, a, b, a), low(width, a, less(b, a, width), less(a, b, width))
				for rest := range width {
					delta().want(t, width, append(plain, falling(rest)...), append(told, falling(rest)...))
					undelta().want(t, width, append(told, falling(rest)...), append(plain, falling(rest)...))
				}
			}
		}
	}
}

// P14.2: each two numbers of one byte.
func TestDeltaOfEachTwoBytes(t *testing.T) {
	for a := range 256 {
		for b := range 256 {
			delta().want(t, 1, []byte{byte(a), byte(b)}, []byte{byte(a), byte((b + 256 - a) % 256)})
			undelta().want(t, 1, []byte{byte(a), byte(b)}, []byte{byte(a), byte((a + b) % 256)})
		}
	}
}

// P14.2: a number reckons with the one ahead, not with the first one or with a difference: sums go on through many numbers.
func TestUndeltaSumsUp(t *testing.T) {
	for _, width := range widths() {
		for _, step := range edges(width) {
			told, sum, sums := []uint64{}, uint64(0), []uint64{}
			for range 300 {
				sum = more(sum, step, width)
				told, sums = append(told, step), append(sums, sum)
			}
			undelta().want(t, width, low(width, told...), low(width, sums...))
		}
	}
}

// P14.2: the lowest byte stands first: a rise by one is seen in it, and carries into the next.
func TestDeltaHasTheLowestByteFirst(t *testing.T) {
	for _, width := range widths() {
		for digit := range width {
			one := make([]byte, width)
			one[digit] = 1
			full := make([]byte, width)
			for i := range digit {
				full[i] = 0xff
			}
			rise := make([]byte, width)
			rise[0] = 1
			delta().want(t, width, append(full, one...), append(full, rise...))
			undelta().want(t, width, append(full, rise...), append(full, one...))
		}
	}
}
