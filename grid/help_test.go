package grid_test

import (
	"bytes"
	"fmt"
	"math"
	"slices"
	"testing"

	"slabvault/api"
	"slabvault/grid"
)

// most is the greatest number that there is, and least the one furthest below 0.
const (
	most  = math.MaxInt
	least = math.MinInt
)

// ints tells a list of numbers; without one it is empty, but not nil.
func ints(l ...int) []int { return append([]int{}, l...) }

// same tells a list of a number that stands so many times.
func same(n, times int) []int { return slices.Repeat([]int{n}, times) }

// with tells a list alike but for one number.
func with(l []int, at, n int) []int {
	l = slices.Clone(l)
	l[at] = n
	return l
}

// piece is all that Cut, or Paste, is handed.
type piece struct {
	data                []byte
	size                int
	dims, shape, coords []int
	fill, chunk         []byte
}

// cut and paste tell what the calls answer.
func (p piece) cut() ([]byte, api.Errno) {
	return grid.Cut(p.data, p.size, p.dims, p.shape, p.coords, p.fill)
}

func (p piece) paste() ([]byte, api.Errno) {
	return grid.Paste(p.data, p.size, p.dims, p.shape, p.coords, p.chunk)
}

// String tells a piece in a few words, however long its bytes are.
func (p piece) String() string {
	return fmt.Sprintf("data of %d, size %d, in %v by %v at %v, fill of %d, chunk of %d",
		len(p.data), p.size, p.dims, p.shape, p.coords, len(p.fill), len(p.chunk))
}

// newPiece tells a piece whose bytes are just as many as they should be, all elements of data and chunk being other ones.
func newPiece(size int, dims, shape, coords []int) piece {
	return piece{
		data: numbered(product(dims)*size, 0), size: size, dims: dims, shape: shape, coords: coords,
		fill: numbered(size, 100), chunk: numbered(product(shape)*size, 200),
	}
}

// numbered tells so many bytes, of which neighbours near and far differ.
func numbered(n, seed int) []byte {
	b := make([]byte, n)
	for i := range b {
		b[i] = byte(i*7 + i/256*13 + i/4096 + seed)
	}
	return b
}

// product tells that of a list; it is asked of small ones alone.
func product(l []int) int {
	p := 1
	for _, n := range l {
		p *= n
	}
	return p
}

// tupleAt tells the tuple of a place, which is divided from the last dimension on.
func tupleAt(dims []int, p int) []int {
	tuple := make([]int, len(dims))
	for d := len(dims) - 1; d >= 0; d-- {
		tuple[d], p = p%dims[d], p/dims[d]
	}
	return tuple
}

// tuples tells all tuples of an extent, by their places.
func tuples(dims []int) [][]int {
	var l [][]int
	for p := range product(dims) {
		l = append(l, tupleAt(dims, p))
	}
	return l
}

// brief tells bytes, however many they are.
func brief(b []byte) string {
	if len(b) > 40 {
		return fmt.Sprintf("%d bytes, %x..", len(b), b[:40])
	}
	return fmt.Sprintf("%d bytes, %x", len(b), b)
}

// wantBytes holds bytes that a call answered against those that it should.
func wantBytes(t *testing.T, what string, got []byte, e api.Errno, want []byte, fault api.Errno) {
	t.Helper()
	if e != fault || !bytes.Equal(got, want) {
		t.Errorf("%s: answers %s, %d, not %s, %d", what, brief(got), e, brief(want), fault)
	}
}

// wantBoth holds that Cut and Paste answer the same error.
func wantBoth(t *testing.T, p piece, fault api.Errno) {
	t.Helper()
	b, e := p.cut()
	wantBytes(t, "Cut of "+p.String(), b, e, nil, fault)
	b, e = p.paste()
	wantBytes(t, "Paste of "+p.String(), b, e, nil, fault)
}

// wantResize holds what Resize answers.
func wantResize(t *testing.T, data []byte, size int, from, to []int, fill, want []byte, fault api.Errno) {
	t.Helper()
	b, e := grid.Resize(data, size, from, to, fill)
	what := fmt.Sprintf("Resize of %s, size %d, from %v to %v, fill of %d", brief(data), size, from, to, len(fill))
	wantBytes(t, what, b, e, want, fault)
}

// wantClip holds what Clip answers.
func wantClip(t *testing.T, dims, shape, coords, start, size []int, fault api.Errno) {
	t.Helper()
	a, b, e := grid.Clip(dims, shape, coords)
	if !slices.Equal(a, start) || !slices.Equal(b, size) || e != fault {
		t.Errorf("Clip(%v, %v, %v) = %v, %v, %d, not %v, %v, %d", dims, shape, coords, a, b, e, start, size, fault)
	}
}

// wantChunks holds what Chunks answers.
func wantChunks(t *testing.T, dims, shape []int, want int, fault api.Errno) {
	t.Helper()
	if n, e := grid.Chunks(dims, shape); n != want || e != fault {
		t.Errorf("Chunks(%v, %v) = %d, %d, not %d, %d", dims, shape, n, e, want, fault)
	}
}

// wantOf holds what Of answers.
func wantOf(t *testing.T, at, shape, coords, inner []int, fault api.Errno) {
	t.Helper()
	a, b, e := grid.Of(at, shape)
	if !slices.Equal(a, coords) || !slices.Equal(b, inner) || e != fault {
		t.Errorf("Of(%v, %v) = %v, %v, %d, not %v, %v, %d", at, shape, a, b, e, coords, inner, fault)
	}
}

// dice tells numbers that look thrown, and are the same in each run.
type dice uint64

func (d *dice) below(n int) int {
	*d = *d*6364136223846793005 + 1442695040888963407
	return int(uint64(*d)>>33) % n
}

// oneOf tells one of some numbers.
func (d *dice) oneOf(l ...int) int { return l[d.below(len(l))] }

// bytes tells so many thrown bytes.
func (d *dice) bytes(n int) []byte {
	b := make([]byte, n)
	for i := range b {
		b[i] = byte(d.below(256))
	}
	return b
}
