package grid_test

import (
	"slices"
	"testing"

	"slabvault/api"
)

// anyNumber tells one that is mostly small, and seldom one that may not be.
func (d *dice) anyNumber(from, below int) int {
	switch d.below(60) {
	case 0:
		return d.oneOf(-1, -2, least)
	case 1:
		return d.oneOf(0, 1, api.MaxDim-1, api.MaxDim, api.MaxDim+1)
	case 2:
		return d.oneOf(1<<31, 1<<32, 1<<44, 1<<62, 1<<62+1, most-1, most)
	}
	return from + d.below(below-from)
}

// anyList tells so many numbers; seldom one more or fewer.
func (d *dice) anyList(rank, from, below int) []int {
	l := ints()
	for range rank {
		l = append(l, d.anyNumber(from, below))
	}
	switch d.below(120) {
	case 0:
		l = append(l, d.anyNumber(from, below))
	case 1:
		l = l[:len(l)/2]
	}
	return l
}

// anyBytes tells so many, seldom more or fewer; never so many that they could not be made.
func (d *dice) anyBytes(n int) []byte {
	if n < 0 || n > 2*api.MaxData {
		n = d.below(3)
	}
	switch d.below(80) {
	case 0:
		n++
	case 1:
		n = max(0, n-1)
	case 2:
		return nil
	}
	return d.bytes(n)
}

// anyPiece tells one that is mostly good.
func (d *dice) anyPiece() piece {
	rank := d.below(api.MaxRank + 1)
	if d.below(100) == 0 {
		rank = api.MaxRank + 1
	}
	p := piece{dims: d.anyList(rank, 0, 6), shape: d.anyList(rank, 1, 6), coords: d.anyList(rank, 0, 4), size: 1 + d.below(4)}
	if d.below(20) == 0 {
		p.size = d.oneOf(0, -1, least, 1, api.MaxElement-1, api.MaxElement, api.MaxElement+1, most)
	}
	lengths := []int{0, 0}
	if p.size > 0 && p.size <= api.MaxElement {
		n, _ := modelElements(p.dims)
		m, _ := modelElements(p.shape)
		lengths = ints(n*p.size, m*p.size)
	}
	p.data, p.chunk, p.fill = d.anyBytes(lengths[0]), d.anyBytes(lengths[1]), d.anyBytes(p.size)
	return p
}

// seen holds that each error came often enough.
func seen(t *testing.T, what string, faults map[api.Errno]int) {
	t.Helper()
	for _, e := range []api.Errno{api.OK, api.ErrArg, api.ErrBig} {
		if faults[e] < 100 {
			t.Errorf("%s: the error %d came but %d times: the test looks at too little", what, e, faults[e])
		}
	}
}

// P13.3: whatever Cut and Paste are handed, they answer what the second reading of the chapter says.
func TestAnyPieceAgainstTheModel(t *testing.T) {
	d := dice(13)
	cuts, pastes := map[api.Errno]int{}, map[api.Errno]int{}
	for range 20000 {
		cut, paste := wantModel(t, d.anyPiece())
		cuts[cut]++
		pastes[paste]++
	}
	seen(t, "Cut", cuts)
	seen(t, "Paste", pastes)
}

// P13.4: whatever Resize is handed, it answers what the second reading of the chapter says.
func TestAnyResizeAgainstTheModel(t *testing.T) {
	d := dice(1304)
	faults := map[api.Errno]int{}
	for range 20000 {
		p := d.anyPiece()
		to := slices.Clone(p.shape)
		for i := range to {
			if d.below(8) == 0 {
				to[i] = 0
			}
		}
		want, fault := modelResize(p.data, p.size, p.dims, to, p.fill)
		wantResize(t, p.data, p.size, p.dims, to, p.fill, want, fault)
		faults[fault]++
	}
	seen(t, "Resize", faults)
}

// P13.1, P13.2: whatever Chunks, Of and Clip are handed, they answer what the second reading of the chapter says.
func TestAnyListsAgainstTheModel(t *testing.T) {
	d := dice(1301)
	faults := map[api.Errno]int{}
	for range 20000 {
		p := d.anyPiece()
		n, fault := modelChunks(p.dims, p.shape)
		wantChunks(t, p.dims, p.shape, n, fault)
		faults[fault]++
		coords, inner, fault := modelOf(p.coords, p.shape)
		wantOf(t, p.coords, p.shape, coords, inner, fault)
		start, size, fault := modelClip(p.dims, p.shape, p.coords)
		wantClip(t, p.dims, p.shape, p.coords, start, size, fault)
	}
	seen(t, "Chunks", faults)
}
