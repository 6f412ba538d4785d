package btree_test

import (
	"math"
	"slices"
	"testing"

	"slabvault/api"
	"slabvault/btree"
)

// risingNames are names in order: empty, such as begin one another, with bytes 0 and above 127, and such as are no text.
func risingNames() []string {
	long := "m" + string(make([]byte, 70))
	return []string{
		"", "\x00", "\x00\x00", "\x00\x01", "\x00\xff", "\x01", " ", "/", "/a", "0", "10", "2", "A", "B", "Z", "_",
		"a", "a\x00", "a\x00b", "a/", "aa", "aab", "ab", "aba", "a\x7f", "a\x80", "a\xff", "a\xffz", "b", long, long + "\x00", "z",
		"\x7f", "\x80", "\x80\x00", "\x80\x80", "\xc2", "\xc3\xa4", "\xe2\x82\xac", "\xef\xbf\xbd", "\xf0\x9f\x98\x80", "\xfe", "\xff", "\xff\x00", "\xff\xfe", "\xff\xff", "\xff\xff\xff",
	}
}

// risingCoords are coordinates in order: of no number, such as begin one another, below 0, and as far out as numbers go.
func risingCoords() [][]int {
	return [][]int{
		nil, {math.MinInt}, {math.MinInt, math.MinInt}, {math.MinInt, math.MaxInt}, {math.MinInt + 1}, {math.MinInt32}, {-256}, {-2}, {-2, 0}, {-1}, {-1, -1}, {-1, 0}, {-1, 1},
		{0}, {0, math.MinInt}, {0, -1}, {0, 0}, {0, 0, -1}, {0, 0, 0}, {0, 0, 0, 0}, {0, 0, 0, 0, 0, 0}, {0, 0, 1}, {0, 1}, {0, math.MaxInt},
		{1}, {1, -9}, {1, 0}, {1, 5}, {1, 5, 5}, {1, 6}, {2}, {2, 1}, {9}, {10}, {10, 9}, {255}, {256}, {1 << 32}, {1<<32 + 1}, {math.MaxInt - 1}, {math.MaxInt}, {math.MaxInt, math.MinInt}, {math.MaxInt, math.MaxInt}, {math.MaxInt, math.MaxInt, 0},
	}
}

// wantOrder asks for the order of each two keys of a list that rises.
func wantOrder[K any](t *testing.T, rising []K, order func(a, b K) int) {
	t.Helper()
	for i, a := range rising {
		for j, b := range rising {
			want := 0
			if i < j {
				want = -1
			}
			if i > j {
				want = 1
			}
			if got := order(a, b); got != want {
				t.Errorf("order of %v and %v: %d; want %d", a, b, got, want)
			}
		}
	}
}

// The chapter's words: the order of names.
func TestCmpNames(t *testing.T) { wantOrder(t, risingNames(), btree.CmpNames) }

// The chapter's words: the order of coordinates; those of no number are one, nil or empty.
func TestCmpCoords(t *testing.T) {
	wantOrder(t, risingCoords(), btree.CmpCoords)
	if btree.CmpCoords(nil, []int{}) != 0 || btree.CmpCoords([]int{}, nil) != 0 || btree.CmpCoords([]int{}, []int{}) != 0 {
		t.Error("coordinates of no number differ")
	}
}

// listed tells trees of keys of a list that rises.
func listed[K any](newTree func(int) *btree.Tree[K], rising []K, same func(a, b K) bool) family[K] {
	return family[K]{newTree, func(i int) K { return rising[i] }, same}
}

// P7.2, P7.3, P7.4: trees of such keys, put in each order.
func TestTreesInOrder(t *testing.T) {
	for _, most := range []int{3, 4, 5, 63, 64} {
		inOrder(t, listed(btree.NewNames, risingNames(), func(a, b string) bool { return a == b }), most, len(risingNames()))
		inOrder(t, listed(btree.NewCoords, risingCoords(), slices.Equal[[]int]), most, len(risingCoords()))
	}
}

func inOrder[K any](t *testing.T, f family[K], most, count int) {
	t.Helper()
	for _, puts := range rows(count) {
		for _, drops := range rows(count) {
			x := f.try(t, most)
			for _, i := range puts {
				x.put(t, i, uint64(i))
				x.wantKeys(t)
			}
			for low := range count {
				for high := range count {
					want := f.keysOf(puts[:0])
					for i := low; i < high; i++ {
						want = append(want, f.key(i))
					}
					if got := x.tree.Span(f.key(low), f.key(high)); !f.sameKeys(got, want) {
						t.Fatalf("Span of %v and %v: %v; want %v", f.key(low), f.key(high), got, want)
					}
				}
			}
			for _, i := range drops {
				x.wantGet(t, i)
				x.drop(t, i)
				x.wantGet(t, i)
				x.wantKeys(t)
			}
		}
	}
}

// P7.2, rule 3: coordinates of no number are one key, nil or empty.
func TestCoordsOfNoNumber(t *testing.T) {
	x := btree.NewCoords(3)
	if is, e := x.Put(nil, 1); !is || e != api.OK {
		t.Errorf("Put: %t, error %d", is, int(e))
	}
	if is, e := x.Put([]int{}, 2); is || e != api.OK {
		t.Errorf("Put: %t, error %d", is, int(e))
	}
	if v, is := x.Get(nil); v != 2 || !is || x.Len() != 1 {
		t.Errorf("Get: %d, %t of %d", v, is, x.Len())
	}
	if l := x.Span([]int{}, []int{0}); len(l) != 1 || len(l[0]) != 0 {
		t.Errorf("Span: %v", l)
	}
	if l := x.Nodes(); len(l) != 1 || len(l[0].Keys) != 1 || len(l[0].Keys[0]) != 0 {
		t.Errorf("Nodes: %v", l)
	}
	if !x.Drop([]int{}) || x.Drop(nil) || x.Len() != 0 {
		t.Error("Drop")
	}
}
