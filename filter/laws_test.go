package filter_test

import (
	"bytes"
	"slices"
	"testing"

	"slabvault/api"
	"slabvault/filter"
)

// there tells what filters make of bytes, and holds what P16.4 and P16.5 say of any: it leads back, and is at most FilterOverhead bytes longer.
func there(t *testing.T, l []api.Filter, b []byte) []byte {
	t.Helper()
	told, e := filter.Apply(l, b)
	if e != api.OK || len(told) > len(b)+16 {
		t.Fatalf("Apply(%s, %s) = %s, %d", listed(l), brief(b), brief(told), e)
	}
	if got, e := filter.Undo(l, told, len(b)); e != api.OK || !bytes.Equal(got, b) {
		t.Fatalf("Undo(%s, %s, %d) = %s, %d, not %s", listed(l), brief(told), len(b), brief(got), e, brief(b))
	}
	return told
}

// P16.4, P16.5: each three of all filters, and each four of some of each kind, with bytes that are no multiple of any width.
func TestBackThroughEachRow(t *testing.T) {
	for _, l := range rows(3, all()) {
		there(t, l, numbered(23))
	}
	d := dice(2)
	for _, l := range rows(4, some()) {
		for _, b := range [][]byte{nil, {0}, numbered(41), same(9, 53), d.bytes(37, 2)} {
			there(t, l, b)
		}
	}
}

// P16.4, P16.5: any filters, and any number of bytes up to MaxChunk, against the second reading.
func TestBackThroughAnyFilters(t *testing.T) {
	d := dice(3)
	for range 4000 {
		l, b := d.pipe(), d.bytes(d.below(1<<(1+d.below(9))), 1+d.below(1<<(1+d.below(8))))
		want, _ := modelApply(l, b)
		if told := there(t, l, b); !bytes.Equal(told, want) {
			t.Errorf("Apply(%s, %s) = %s, not %s", listed(l), brief(b), brief(told), brief(want))
		}
	}
	for range 100 {
		there(t, d.pipe(), d.bytes(api.MaxChunk-d.below(3), 256))
	}
}

// P16.5: the filters that add most add just FilterOverhead bytes, of any number of bytes: four sums.
func TestBoundIsReached(t *testing.T) {
	for n := 0; n <= api.MaxChunk; n += 1 + n/7 {
		if told := there(t, times(4, summed()), numbered(n)); len(told) != n+api.FilterOverhead {
			t.Errorf("four sums of %d bytes: %d bytes", n, len(told))
		}
	}
	there(t, times(4, summed()), numbered(api.MaxChunk))
}

// isShort says whether P16.6 speaks of filters.
func isShort(l []api.Filter) bool {
	for _, f := range l {
		if f.Kind == api.FilterDelta || f.Kind == api.FilterMatch {
			return f.Kind == api.FilterMatch
		}
	}
	return false
}

// wantShort holds P16.6 of so many bytes.
func wantShort(t *testing.T, l []api.Filter, x byte, n int) {
	t.Helper()
	if told := there(t, l, same(x, n)); len(told) > n/64+128 {
		t.Errorf("%s of %d bytes %d: %d bytes", listed(l), n, x, len(told))
	}
}

// P16.6: of the most bytes, and of numbers of them with and without a rest, through each row of some filters with a match, whatever stands ahead of it but a delta, and whatever stands behind it.
func TestAlikeThroughEachRow(t *testing.T) {
	of := pipe(shuffled(2), shuffled(7), shuffled(8), delta(8), matched(), summed())
	for count := 1; count <= api.MaxFilters; count++ {
		for i, l := range rows(count, of) {
			if isShort(l) {
				wantShort(t, l, byte(i), api.MaxChunk)
				wantShort(t, l, 255, 4091)
				wantShort(t, l, 97, 133+i%9)
				wantShort(t, l, 1, i%100)
			}
		}
	}
}

// P16.6: each of all filters ahead of a match and behind one, alone and with a sum among them, which is no more alike, and each byte.
func TestAlikeThroughEachFilter(t *testing.T) {
	for _, f := range all() {
		for _, l := range [][]api.Filter{pipe(f, matched()), pipe(matched(), f), pipe(summed(), f, matched()), pipe(f, summed(), matched()), pipe(summed(), summed(), f, matched()), pipe(f, summed(), matched(), f)} {
			if isShort(l) {
				for n := range 18 {
					wantShort(t, l, byte(n), 4079+n)
				}
			}
		}
	}
	for x := range 256 {
		for _, l := range [][]api.Filter{pipe(matched()), pipe(summed(), shuffled(5), matched(), delta(3)), pipe(matched(), summed(), matched())} {
			wantShort(t, l, byte(x), api.MaxChunk)
			wantShort(t, l, byte(x), 130)
		}
	}
}

// P16.6: each number of bytes up to some hundreds, and many beyond.
func TestAlikeOfEachLength(t *testing.T) {
	for n := 0; n <= api.MaxChunk; n += 1 + n/400 {
		for _, l := range [][]api.Filter{pipe(matched()), pipe(summed(), shuffled(8), matched()), pipe(matched(), delta(1), shuffled(2), summed())} {
			wantShort(t, l, 7, n)
		}
	}
}

// turned holds P16.7 of filtered bytes of which one becomes each of some others.
func turned(t *testing.T, l []api.Filter, told []byte, n int, others ...byte) {
	t.Helper()
	b := bytes.Clone(told)
	for i := range b {
		for _, x := range others {
			if b[i] = told[i] ^ x; x != 0 {
				refuseUndo(t, l, b, n, api.ErrCorrupt)
			}
		}
		b[i] = told[i]
	}
	if got, e := filter.Undo(l, b, n); e != api.OK || len(got) != n {
		t.Errorf("Undo(%s, %s, %d) with no byte turned: %d", listed(l), brief(b), n, e)
	}
}

// everyByte tells all bytes.
func everyByte() []byte {
	b := make([]byte, 256)
	for i := range b {
		b[i] = byte(i)
	}
	return b
}

// P16.7: each byte becomes each other one, of the sum's own and of the others, behind no filter, and behind each one.
func TestEachByteTurned(t *testing.T) {
	for _, b := range [][]byte{nil, {0}, {255}, numbered(13), same(0, 20), same(255, 20), same(255, 257)} {
		turned(t, pipe(summed()), there(t, pipe(summed()), b), len(b), everyByte()...)
	}
	for _, f := range all() {
		l := pipe(f, summed())
		for _, b := range [][]byte{nil, {9}, numbered(13), same(97, 30)} {
			turned(t, l, there(t, l, b), len(b), everyByte()...)
		}
	}
}

// P16.7: so it is behind each two of all filters, and each three of some, with one bit turned, or all of a byte.
func TestEachBitTurned(t *testing.T) {
	for _, ahead := range append(rows(2, all()), rows(3, some())...) {
		l := append(slices.Clone(ahead), summed())
		for _, b := range [][]byte{{9}, numbered(11)} {
			turned(t, l, there(t, l, b), len(b), 1, 2, 4, 8, 16, 32, 64, 128, 255)
		}
	}
}

// P16.7: so it is of the most bytes.
func TestEachOfTheMostBytesTurned(t *testing.T) {
	for _, l := range [][]api.Filter{pipe(summed()), pipe(shuffled(4), matched(), summed()), pipe(summed(), delta(2), summed())} {
		turned(t, l, there(t, l, numbered(api.MaxChunk)), api.MaxChunk, 1, 128)
	}
}

// P16.3: whatever bytes come, they are undone as the second reading says: such as no filter told, and such as are filtered and then changed.
func TestAnyBytesAgainstTheModel(t *testing.T) {
	d := dice(4)
	for range 20000 {
		l, b := d.pipe(), d.bytes(d.below(1<<(1+d.below(8))), 1+d.below(1<<(1+d.below(8))))
		n := len(b)
		if d.below(4) > 0 {
			b, _ = modelApply(l, b)
		}
		if d.below(2) == 0 && len(b) > 0 {
			b = bytes.Clone(b)
			b[d.below(len(b))] ^= byte(1 << d.below(8))
		}
		if d.below(4) == 0 {
			b = b[:d.below(len(b)+1)]
		}
		for _, count := range []int{n, len(b), d.below(300)} {
			want, fault := modelUndo(l, b, count)
			if got, e := filter.Undo(l, b, count); e != fault || !bytes.Equal(got, want) {
				t.Errorf("Undo(%s, %s, %d) = %s, %d, not %s, %d", listed(l), brief(b), count, brief(got), e, brief(want), fault)
			}
		}
	}
}
