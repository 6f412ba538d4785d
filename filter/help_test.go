package filter_test

import (
	"bytes"
	"fmt"
	"math"
	"testing"

	"slabvault/api"
	"slabvault/filter"
)

func shuffled(width int) api.Filter {
	return api.Filter{Kind: api.FilterShuffle, Width: width}
}
func delta(width int) api.Filter { return api.Filter{Kind: api.FilterDelta, Width: width} }
func matched() api.Filter        { return api.Filter{Kind: api.FilterMatch} }
func summed() api.Filter         { return api.Filter{Kind: api.FilterSum} }

// pipe tells filters as a list.
func pipe(l ...api.Filter) []api.Filter { return l }

// times tells one filter so often.
func times(n int, f api.Filter) []api.Filter {
	var l []api.Filter
	for range n {
		l = append(l, f)
	}
	return l
}

// all tells each filter that may be.
func all() []api.Filter {
	l := pipe(matched(), summed())
	for width := 1; width <= 8; width++ {
		l = append(l, shuffled(width), delta(width))
	}
	return l
}

// some tells a few of each kind, those with the least and the greatest width among them.
func some() []api.Filter {
	return pipe(shuffled(1), shuffled(3), shuffled(8), delta(1), delta(2), delta(8), matched(), summed())
}

// rows tells each row of so many of some filters, in each order, those that stand twice too.
func rows(count int, of []api.Filter) [][]api.Filter {
	l := [][]api.Filter{nil}
	for range count {
		var longer [][]api.Filter
		for _, x := range l {
			for _, f := range of {
				longer = append(longer, append(append([]api.Filter(nil), x...), f))
			}
		}
		l = longer
	}
	return l
}

// short tells each row of at most two of all filters.
func short() [][]api.Filter {
	return append(append(rows(0, nil), rows(1, all())...), rows(2, all())...)
}

// wrong tells filters that may not be: of kinds that are none, and of widths that the kind has not, those next to the edges first.
func wrong() []api.Filter {
	var l []api.Filter
	for _, kind := range []api.FilterKind{0, 5, -1, 6, -4, 255, 257, 1 << 32, 1<<32 + 1, math.MinInt, math.MaxInt} {
		for width := range 9 {
			l = append(l, api.Filter{Kind: kind, Width: width})
		}
	}
	for _, width := range []int{9, -1, 10, -8, 255, 256, 257, 1 << 32, 1<<32 + 1, math.MinInt, math.MinInt + 1, math.MaxInt} {
		l = append(l, shuffled(width), delta(width), api.Filter{Kind: api.FilterMatch, Width: width}, api.Filter{Kind: api.FilterSum, Width: width})
	}
	for width := 1; width <= 8; width++ {
		l = append(l, api.Filter{Kind: api.FilterMatch, Width: width}, api.Filter{Kind: api.FilterSum, Width: width})
	}
	return append(l, shuffled(0), delta(0))
}

// wrongCounts are such as no chunk has, those next to the edges first.
func wrongCounts() []int {
	return []int{-1, api.MaxChunk + 1, -2, -api.MaxChunk, api.MaxData, 1 << 31, 1 << 32, 1<<32 + 1, -1 << 32, math.MinInt, math.MinInt + 1, math.MaxInt, math.MaxInt - 1}
}

// wantCheck holds what Check answers.
func wantCheck(t *testing.T, l []api.Filter, want api.Errno) {
	t.Helper()
	if e := filter.Check(l); e != want {
		t.Errorf("Check(%s) = %d, not %d", listed(l), e, want)
	}
}

// wantApply holds what Apply answers.
func wantApply(t *testing.T, l []api.Filter, b, want []byte) {
	t.Helper()
	if got, e := filter.Apply(l, b); e != api.OK || !bytes.Equal(got, want) {
		t.Errorf("Apply(%s, %s) = %s, %d, not %s", listed(l), brief(b), brief(got), e, brief(want))
	}
}

// refuseApply holds that Apply answers an error, and nothing beside it.
func refuseApply(t *testing.T, l []api.Filter, b []byte, want api.Errno) {
	t.Helper()
	if got, e := filter.Apply(l, b); e != want || len(got) != 0 {
		t.Errorf("Apply(%s, %s) = %s, %d, not error %d", listed(l), brief(b), brief(got), e, want)
	}
}

// wantUndo holds that Undo answers these bytes, if their number is asked for, and ErrCorrupt, if one more or one fewer is.
func wantUndo(t *testing.T, l []api.Filter, b, want []byte) {
	t.Helper()
	n := len(want)
	if got, e := filter.Undo(l, b, n); e != api.OK || !bytes.Equal(got, want) {
		t.Errorf("Undo(%s, %s, %d) = %s, %d, not %s", listed(l), brief(b), n, brief(got), e, brief(want))
	}
	if n > 0 {
		refuseUndo(t, l, b, n-1, api.ErrCorrupt)
	}
	if n < api.MaxChunk {
		refuseUndo(t, l, b, n+1, api.ErrCorrupt)
	}
}

// refuseUndo holds that Undo answers an error, and nothing beside it.
func refuseUndo(t *testing.T, l []api.Filter, b []byte, n int, want api.Errno) {
	t.Helper()
	if got, e := filter.Undo(l, b, n); e != want || len(got) != 0 {
		t.Errorf("Undo(%s, %s, %d) = %s, %d, not error %d", listed(l), brief(b), n, brief(got), e, want)
	}
}

// corrupt holds that Undo answers ErrCorrupt, however many bytes are asked for.
func corrupt(t *testing.T, l []api.Filter, b []byte) {
	t.Helper()
	for _, n := range []int{0, 1, len(b) - 5, len(b) - 4, len(b) - 1, len(b), len(b) + 1, api.MaxChunk} {
		if n >= 0 && n <= api.MaxChunk {
			refuseUndo(t, l, b, n, api.ErrCorrupt)
		}
	}
}

// both holds that bytes become others, and these become them again.
func both(t *testing.T, l []api.Filter, b, told []byte) {
	t.Helper()
	wantApply(t, l, b, told)
	wantUndo(t, l, told, b)
}

// brief tells bytes, however many they are.
func brief(b []byte) string {
	if len(b) > 40 {
		return fmt.Sprintf("%d bytes, %x..", len(b), b[:40])
	}
	return fmt.Sprintf("%d bytes, %x", len(b), b)
}

// listed tells filters, however many they are.
func listed(l []api.Filter) string {
	if len(l) > 6 {
		return fmt.Sprintf("%d filters, %v..", len(l), l[:6])
	}
	return fmt.Sprint(l)
}

// join tells bytes one behind the other, in new memory.
func join(l ...[]byte) []byte { return bytes.Join(l, nil) }

// same tells so many bytes that are all alike.
func same(x byte, n int) []byte { return bytes.Repeat([]byte{x}, n) }

// numbered tells so many bytes, of which neighbours near and far differ.
func numbered(n int) []byte {
	b := make([]byte, n)
	for i := range b {
		b[i] = byte(i*7 + i/256*13 + 1)
	}
	return b
}

// singles tells a packing of bytes in runs of one byte each: the longest one that there is of these.
func singles(b []byte) []byte {
	out := []byte{1}
	for _, x := range b {
		out = append(out, 0, x)
	}
	return out
}

// sealed tells bytes with their sum behind them.
func sealed(b []byte) []byte { return join(b, modelSum(b)) }

// dice tells numbers that look thrown, and are the same in each run.
type dice uint64

func (d *dice) below(n int) int {
	*d = *d*6364136223846793005 + 1442695040888963407
	return int(uint64(*d)>>33) % n
}

// bytes tells so many thrown bytes, of which there are but some kinds.
func (d *dice) bytes(n, kinds int) []byte {
	b := make([]byte, n)
	for i := range b {
		b[i] = byte(d.below(kinds))
	}
	return b
}

// pipe tells thrown filters, at most as many as there may be.
func (d *dice) pipe() []api.Filter {
	var l []api.Filter
	for range d.below(api.MaxFilters + 1) {
		l = append(l, all()[d.below(len(all()))])
	}
	return l
}
