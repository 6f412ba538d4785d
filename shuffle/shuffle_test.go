package shuffle_test

import (
	"testing"

	"slabvault/api"
)

// P14.1: the document's example, and others that can be read: each width, no number, one number, with and without a rest.
func TestShuffleTexts(t *testing.T) {
	for _, x := range []struct {
		width       int
		plain, told string
	}{
		{2, "aAbBcCx", "abcABCx"}, {2, "aAbBcC", "abcABC"}, {2, "aA", "aA"}, {2, "aAx", "aAx"}, {2, "a", "a"}, {2, "", ""}, {2, "aAbB", "abAB"},
		{1, "", ""}, {1, "a", "a"}, {1, "ab", "ab"}, {1, "abcdefghij", "abcdefghij"},
		{3, "aA1bB2", "abAB12"}, {3, "aA1bB2x", "abAB12x"}, {3, "aA1bB2xy", "abAB12xy"}, {3, "aA1bB2cC3", "abcABC123"}, {3, "aA1", "aA1"}, {3, "aA", "aA"},
		{4, "aA1-bB2+", "abAB12-+"}, {4, "aA1-bB2+xyz", "abAB12-+xyz"}, {4, "aA1", "aA1"},
		{5, "abcdeABCDE", "aAbBcCdDeE"}, {5, "abcdeABCDEwxyz", "aAbBcCdDeEwxyz"}, {6, "abcdefABCDEF", "aAbBcCdDeEfF"}, {6, "abcdefABCDEFvwxyz", "aAbBcCdDeEfFvwxyz"},
		{7, "abcdefgABCDEFG1234567", "aA1bB2cC3dD4eE5fF6gG7"}, {7, "abcdefgABCDEFG123456", "aAbBcCdDeEfFgG123456"},
		{8, "abcdefghABCDEFGH", "aAbBcCdDeEfFgGhH"}, {8, "abcdefghABCDEFGH1234567", "aAbBcCdDeEfFgGhH1234567"}, {8, "abcdefgh", "abcdefgh"}, {8, "abcdefg", "abcdefg"}, {8, "a", "a"},
	} {
		shuffled().want(t, x.width, []byte(x.plain), []byte(x.told))
		unshuffled().want(t, x.width, []byte(x.told), []byte(x.plain))
	}
}

// P14.1: all lengths up to some numbers with the longest rest, of each width, against the second reading.
func TestShuffleOfEachLength(t *testing.T) {
	for _, width := range widths() {
		for _, n := range lengths(width) {
			for _, b := range [][]byte{numbered(n), falling(n)} {
				shuffled().wantModel(t, width, b)
				unshuffled().wantModel(t, width, b)
			}
		}
	}
}

// P14.1: fewer bytes than one number, just one number, and one with any rest are what they were.
func TestShuffleOfAtMostOneNumber(t *testing.T) {
	for _, width := range widths() {
		for n := range 2 * width {
			shuffled().want(t, width, numbered(n), numbered(n))
			unshuffled().want(t, width, numbered(n), numbered(n))
		}
	}
}

// P14.1: a byte's place alone says where it goes: bytes of which one is another one go to the same places, the rest stays at the end.
func TestShuffleMovesEachByteToItsRank(t *testing.T) {
	for _, width := range widths() {
		for count := range 5 {
			for rest := range width {
				for p := range count*width + rest {
					b := make([]byte, count*width+rest)
					b[p] = 0xff
					to := p
					if p < count*width {
						to = p%width*count + p/width
					}
					want := make([]byte, len(b))
					want[to] = 0xff
					shuffled().want(t, width, b, want)
					unshuffled().want(t, width, want, b)
				}
			}
		}
	}
}

// All promises: no bytes, nil or empty, are none again.
func TestNoBytes(t *testing.T) {
	for _, c := range calls() {
		for _, width := range widths() {
			c.want(t, width, nil, nil)
			c.want(t, width, []byte{}, nil)
			c.want(t, width, []byte{1, 2, 3}[:0], nil)
		}
	}
}

// All promises: one byte is what it was, of each width and value.
func TestOneByte(t *testing.T) {
	for _, c := range calls() {
		for _, width := range widths() {
			for x := range 256 {
				c.want(t, width, []byte{byte(x)}, []byte{byte(x)})
			}
		}
	}
}

// ErrArg of a width that is not 1 to 8, with bytes and with none.
func TestWrongWidths(t *testing.T) {
	for _, c := range calls() {
		for _, width := range wrongWidths() {
			for _, n := range []int{1, 2, 7, 8, 9, 10, 16, 17, 64, 300} {
				c.refuse(t, width, numbered(n))
			}
			c.refuse(t, width, nil)
			c.refuse(t, width, []byte{})
		}
	}
}

// All promises: many bytes, at the limits of a chunk and of a dataset and beyond, with a rest and without.
func TestManyBytes(t *testing.T) {
	for _, n := range []int{api.MaxChunk, api.MaxData, api.MaxData + 1} {
		for _, c := range calls() {
			for _, width := range widths() {
				c.wantModel(t, width, falling(n))
			}
		}
	}
}
