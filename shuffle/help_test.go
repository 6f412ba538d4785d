package shuffle_test

import (
	"bytes"
	"fmt"
	"math"
	"math/big"
	"testing"

	"slabvault/api"
	"slabvault/shuffle"
)

// call is one of the package's, and what it should answer of a good width.
type call struct {
	name  string
	do    func(width int, b []byte) ([]byte, api.Errno)
	model func(width int, b []byte) []byte
}

func shuffled() call   { return call{"Shuffle", shuffle.Shuffle, modelShuffle} }
func unshuffled() call { return call{"Unshuffle", shuffle.Unshuffle, modelUnshuffle} }
func delta() call      { return call{"Delta", shuffle.Delta, modelDelta} }
func undelta() call    { return call{"Undelta", shuffle.Undelta, modelUndelta} }

// calls tells all of them.
func calls() []call { return []call{shuffled(), unshuffled(), delta(), undelta()} }

// want holds what a call answers of a good width.
func (c call) want(t *testing.T, width int, b, want []byte) {
	t.Helper()
	if got, e := c.do(width, b); e != api.OK || !bytes.Equal(got, want) {
		t.Errorf("%s(%d, %s) = %s, %d, not %s", c.name, width, brief(b), brief(got), e, brief(want))
	}
}

// wantModel holds what a call answers against the second reading of the chapter.
func (c call) wantModel(t *testing.T, width int, b []byte) {
	t.Helper()
	c.want(t, width, b, c.model(width, b))
}

// refuse holds that a call answers ErrArg, and nothing beside it.
func (c call) refuse(t *testing.T, width int, b []byte) {
	t.Helper()
	if got, e := c.do(width, b); e != api.ErrArg || len(got) != 0 {
		t.Errorf("%s(%d, %s) = %s, %d, not ErrArg", c.name, width, brief(b), brief(got), e)
	}
}

// brief tells bytes, however many they are.
func brief(b []byte) string {
	if len(b) > 40 {
		return fmt.Sprintf("%d bytes, %x..", len(b), b[:40])
	}
	return fmt.Sprintf("%d bytes, %x", len(b), b)
}

func widths() []int { return []int{1, 2, 3, 4, 5, 6, 7, 8} }

// wrongWidths are such as no number has, those next to the edges first.
func wrongWidths() []int {
	return []int{0, 9, -1, 10, -8, -9, 16, 64, 256, 257, 1 << 32, 1<<32 + 1, math.MinInt, math.MinInt + 1, math.MaxInt, math.MaxInt - 1}
}

// lengths tells all from 0 to that of some numbers with the longest rest, so that each rest comes behind none, one and several numbers.
func lengths(width int) []int {
	var l []int
	for n := range 6*width + 1 {
		l = append(l, n)
	}
	return l
}

// numbered tells so many bytes, of which neighbours near and far differ.
func numbered(n int) []byte {
	b := make([]byte, n)
	for i := range b {
		b[i] = byte(i*7 + i/256*13 + i/4096 + 1)
	}
	return b
}

// falling tells so many bytes each of which is less than the one ahead, so that numbers of them fall, and wrap.
func falling(n int) []byte {
	b := make([]byte, n)
	for i := range b {
		b[i] = byte(250 - i*3)
	}
	return b
}

// power tells 2^(8 width), which no uint64 of width 8 has.
func power(width int) *big.Int {
	return new(big.Int).Lsh(big.NewInt(1), uint(8*width))
}

// edges tells numbers of a width: the least, the greatest, those about the highest bit, those next to a byte's end, and some whose bytes all differ.
func edges(width int) []uint64 {
	top := new(big.Int).Sub(power(width), big.NewInt(1)).Uint64()
	half := top/2 + 1
	l := []uint64{0, 1, 2, half - 1, half, half + 1, top - 1, top, 0x8192a3b4c5d6e7f8 & top, 0x0102030405060708 & top, 0xfe, 0xff}
	for digit := 1; digit < width; digit++ {
		end := uint64(1) << (8 * digit)
		l = append(l, end-1, end, end+1, top-end, top-end+1)
	}
	return l
}

// low tells numbers one behind the other, by whole divisions, the lowest byte of each first.
func low(width int, numbers ...uint64) []byte {
	b, base, digit := []byte{}, big.NewInt(256), new(big.Int)
	for _, u := range numbers {
		n := new(big.Int).SetUint64(u)
		for range width {
			n.DivMod(n, base, digit)
			b = append(b, byte(digit.Uint64()))
		}
	}
	return b
}

// wrapped tells a number modulo 2^(8 width).
func wrapped(n *big.Int, width int) uint64 {
	return new(big.Int).Mod(n, power(width)).Uint64()
}

// less tells what one number is more than another, modulo 2^(8 width).
func less(a, b uint64, width int) uint64 {
	return wrapped(new(big.Int).Sub(new(big.Int).SetUint64(a), new(big.Int).SetUint64(b)), width)
}

// more tells two numbers together, modulo 2^(8 width).
func more(a, b uint64, width int) uint64 {
	return wrapped(new(big.Int).Add(new(big.Int).SetUint64(a), new(big.Int).SetUint64(b)), width)
}

// dice tells numbers that look thrown, and are the same in each run.
type dice uint64

func (d *dice) below(n int) int {
	*d = *d*6364136223846793005 + 1442695040888963407
	return int(uint64(*d)>>33) % n
}

// bytes tells so many thrown bytes, now and then with many ends of a byte's range among them.
func (d *dice) bytes(n int) []byte {
	b, kinds := make([]byte, n), 1+d.below(2)
	for i := range b {
		b[i] = byte(d.below(256))
		if d.below(kinds) == 1 {
			b[i] = []byte{0, 1, 0x7f, 0x80, 0xff}[d.below(5)]
		}
	}
	return b
}
