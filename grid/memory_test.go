package grid_test

import (
	"bytes"
	"slices"
	"testing"

	"slabvault/api"
	"slabvault/grid"
)

// guarded tells a list with spare room that is filled.
func guarded[E any](l []E, fill E) []E {
	return slices.Concat(l, slices.Repeat([]E{fill}, 3))[:len(l)]
}

// overwrite writes all over a list, spare room too.
func overwrite[E any](l []E, fill E) {
	l = l[:cap(l)]
	for i := range l {
		l[i] = fill
	}
}

// handed tells a piece alike, each list of which has spare room that is filled.
func (p piece) handed() piece {
	p.data, p.fill, p.chunk = guarded(p.data, 77), guarded(p.fill, 77), guarded(p.chunk, 77)
	p.dims, p.shape, p.coords = guarded(p.dims, -77), guarded(p.shape, -77), guarded(p.coords, -77)
	return p
}

// room tells all that a piece's lists have, with their spare room, in lists of its own.
func (p piece) room() piece {
	for _, b := range []*[]byte{&p.data, &p.fill, &p.chunk} {
		*b = slices.Clone((*b)[:cap(*b)])
	}
	for _, l := range []*[]int{&p.dims, &p.shape, &p.coords} {
		*l = slices.Clone((*l)[:cap(*l)])
	}
	return p
}

// isLike tells whether two pieces have the same in all lists.
func (p piece) isLike(q piece) bool {
	return bytes.Equal(p.data, q.data) && bytes.Equal(p.fill, q.fill) && bytes.Equal(p.chunk, q.chunk) &&
		slices.Equal(p.dims, q.dims) && slices.Equal(p.shape, q.shape) && slices.Equal(p.coords, q.coords)
}

// somePieces tells good ones and wrong ones; Of takes coords for a tuple, and Resize shape for the other extent.
func somePieces() []piece {
	l := []piece{
		newPiece(2, ints(2, 3), ints(2, 2), ints(0, 1)), newPiece(1, ints(5), ints(2), ints(2)), newPiece(1, ints(5), ints(2), ints(9)), newPiece(3, nil, nil, nil), newPiece(1, ints(0, 2), ints(1, 2), ints(0, 0)),
		newPiece(2, ints(3), ints(3), ints(0)), newPiece(2, ints(3), ints(7), ints(0)), newPiece(1, ints(3, 2, 4, 1), ints(2, 2, 2, 2), ints(1, 0, 1, 0)), newPiece(2, ints(2, 3), ints(2, 2), ints(0, -1)), newPiece(2, ints(2, 3), ints(2), ints(0, 1)),
	}
	wrong := l[0]
	wrong.data = wrong.data[1:]
	return append(l, wrong, piece{}, piece{size: 1, dims: ints(-1), shape: ints(0)}, piece{size: 1, dims: ints(api.MaxDim, 2), shape: ints(1, 1)})
}

// answers are what all calls tell of a piece.
type answers struct {
	lists [][]int
	bytes [][]byte
	count int
	fault [6]api.Errno
}

func (p piece) ask() answers {
	var a answers
	var l [4][]int
	var b [3][]byte
	a.count, a.fault[0] = grid.Chunks(p.dims, p.shape)
	l[0], l[1], a.fault[1] = grid.Of(p.coords, p.shape)
	l[2], l[3], a.fault[2] = grid.Clip(p.dims, p.shape, p.coords)
	b[0], a.fault[3] = p.cut()
	b[1], a.fault[4] = p.paste()
	b[2], a.fault[5] = grid.Resize(p.data, p.size, p.dims, p.shape, p.fill)
	a.lists, a.bytes = l[:], b[:]
	return a
}

// isLike tells whether two answers are the same.
func (a answers) isLike(b answers) bool {
	return a.count == b.count && a.fault == b.fault && slices.EqualFunc(a.lists, b.lists, slices.Equal[[]int]) && slices.EqualFunc(a.bytes, b.bytes, bytes.Equal)
}

// Rules 4 and 7: what is handed in is not changed, its spare room neither, and what stands there is not read.
func TestGivenListsAreLeftAlone(t *testing.T) {
	for _, p := range somePieces() {
		given := p.handed()
		before := given.room()
		if a, b := given.ask(), p.ask(); !a.isLike(b) {
			t.Errorf("%s: with spare room the answers are %v, not %v", p, a, b)
		}
		if !given.room().isLike(before) {
			t.Errorf("%s: what was handed in is changed", p)
		}
	}
}

// Rule 4: what is told is new memory, spare room too: writing all over it changes neither what was handed in, nor another list, nor what is told again.
func TestToldListsAreNew(t *testing.T) {
	for _, p := range somePieces() {
		given := p.handed()
		before, want := given.room(), p.ask()
		for range 2 {
			a := given.ask()
			if !a.isLike(want) {
				t.Errorf("%s: the answers are %v, not %v", p, a, want)
			}
			for i := range a.lists {
				overwrite(a.lists[i], -1-i)
				_ = append(a.lists[i], -1-i, -1-i, -1-i)
			}
			for i := range a.bytes {
				overwrite(a.bytes[i], byte(200+i))
				_ = append(a.bytes[i], byte(200+i), byte(200+i))
			}
			for i, l := range a.lists {
				if slices.ContainsFunc(l[:cap(l)], func(n int) bool { return n != -1-i }) {
					t.Errorf("%s: list %d is not its own: %v", p, i, l)
				}
			}
			for i, b := range a.bytes {
				if slices.ContainsFunc(b[:cap(b)], func(n byte) bool { return n != byte(200+i) }) {
					t.Errorf("%s: the bytes %d are not their own: %v", p, i, b)
				}
			}
			if !given.room().isLike(before) {
				t.Errorf("%s: what was told is what was handed in", p)
			}
		}
	}
}

// Rule 4: what is handed in may be changed behind a call, without what was told being changed.
func TestToldListsDoNotFollow(t *testing.T) {
	for _, p := range somePieces() {
		given, want := p.handed(), p.ask()
		a := given.ask()
		for _, b := range [][]byte{given.data, given.fill, given.chunk} {
			overwrite(b, 55)
		}
		for _, l := range [][]int{given.dims, given.shape, given.coords} {
			overwrite(l, 55)
		}
		if !a.isLike(want) {
			t.Errorf("%s: the answers follow what was handed in: %v, not %v", p, a, want)
		}
	}
}

// Rule 4: lists that share memory are taken as each stands.
func TestGivenListsMayBeTheSame(t *testing.T) {
	l := ints(2, 2)
	b := []byte("abcd")
	p := piece{data: b, size: 1, dims: l, shape: l, coords: l, fill: b[:1], chunk: b}
	got, e := p.cut()
	wantBytes(t, "Cut", got, e, []byte("aaaa"), api.OK)
	got, e = p.paste()
	wantBytes(t, "Paste", got, e, []byte("abcd"), api.OK)
	wantClip(t, l, l, l, ints(2, 2), ints(0, 0), api.OK)
	wantOf(t, l, l, ints(1, 1), ints(0, 0), api.OK)
	wantChunks(t, l, l, 1, api.OK)
	wantResize(t, b, 1, l, l, b[3:], []byte("abcd"), api.OK)
	p.coords = ints(0, 0)
	got, e = p.paste()
	wantBytes(t, "Paste", got, e, []byte("abcd"), api.OK)
	wantBytes(t, "what was handed in", b, api.OK, []byte("abcd"), api.OK)
}
