package btree_test

import (
	"math"
	"slices"
	"testing"

	"slabvault/api"
	"slabvault/btree"
)

// P7.1: which trees there are.
func TestMosts(t *testing.T) {
	for _, most := range []int{math.MinInt, math.MinInt + 3, -64, -3, -1, 0, 1, 2, 65, 66, 128, 1<<8 + 3, 1<<16 + 3, 1<<32 + 3, math.MaxInt} {
		if btree.NewNames(most) != nil || btree.NewCoords(most) != nil {
			t.Errorf("a tree of nodes of %d keys", most)
		}
	}
	for most := 3; most <= 64; most++ {
		names().try(t, most).wantAll(t)
		coords().try(t, most).wantAll(t)
		if btree.NewNames(most) == btree.NewNames(most) || btree.NewCoords(most) == btree.NewCoords(most) {
			t.Error("one tree is told twice")
		}
	}
}

// P7.1 to P7.4: the chapter's example.
func TestExample(t *testing.T) {
	x := btree.NewNames(3)
	for _, put := range []struct {
		key   string
		value uint64
		isNew bool
	}{{"a", 1, true}, {"b", 2, true}, {"a", 7, false}} {
		if is, e := x.Put(put.key, put.value); is != put.isNew || e != api.OK {
			t.Errorf("Put(%s, %d): %t, error %d", put.key, put.value, is, int(e))
		}
	}
	if v, is := x.Get("a"); v != 7 || !is {
		t.Errorf("Get(a): %d, %t", v, is)
	}
	if l := x.Nodes(); !slices.Equal(x.Keys(), []string{"a", "b"}) || len(l) != 1 || l[0].Level != 0 || !l[0].Leaf || !slices.Equal(l[0].Keys, []string{"a", "b"}) {
		t.Errorf("Keys: %v, Nodes: %v", x.Keys(), l)
	}
	x.Put("c", 3)
	x.Put("d", 4)
	if l := x.Nodes(); len(l) != 3 || l[0].Leaf || len(l[0].Keys) != 1 || !l[1].Leaf || !l[2].Leaf {
		t.Errorf("Nodes: %v", l)
	}
	if l := x.Span("b", "d"); !slices.Equal(l, []string{"b", "c"}) {
		t.Errorf("Span: %v", l)
	}
}

// P7.2, P7.3: a key that is put twice, also deep in a tree, has the number that was put last.
func TestPutTwice(t *testing.T) {
	for _, most := range []int{3, 4, 64} {
		for _, count := range []int{1, most, most + 1, 500} {
			putTwice(t, names(), most, count)
			putTwice(t, coords(), most, count)
		}
	}
}

func putTwice[K any](t *testing.T, f family[K], most, count int) {
	t.Helper()
	x := f.try(t, most)
	x.putAll(t, rows(count)["mixed"])
	before := x.tree.Nodes()
	for i := range count {
		for _, v := range []uint64{0, math.MaxUint64, 1 << 63, uint64(i)} {
			x.put(t, i, v)
			x.wantGet(t, i)
		}
	}
	x.wantAll(t)
	after := x.tree.Nodes()
	if !slices.EqualFunc(before, after, func(a, b btree.Node[K]) bool { return f.sameKeys(a.Keys, b.Keys) }) {
		t.Error("a key put anew has changed the nodes")
	}
}

// P7.2: numbers in their whole range; a number 0 is one too.
func TestNumbers(t *testing.T) {
	x := names().try(t, 3)
	for i, v := range []uint64{0, 1, math.MaxUint64, math.MaxUint64 - 1, 1 << 63, 1<<63 - 1, 1 << 32, 1 << 31} {
		x.put(t, i, v)
	}
	x.wantAll(t)
}

// P7.2: keys that are not there: below all others, between them, above them, and such as were dropped.
func TestKeysThatAreNotThere(t *testing.T) {
	for _, most := range []int{3, 4, 64} {
		for _, count := range []int{0, 1, most, most + 1, 300} {
			notThere(t, names(), most, count)
			notThere(t, coords(), most, count)
		}
	}
}

func notThere[K any](t *testing.T, f family[K], most, count int) {
	t.Helper()
	x := f.try(t, most)
	for i := range count {
		x.put(t, 2*i+1, uint64(i))
	}
	for i := range count + 1 {
		for range 2 {
			x.wantGet(t, 2*i)
			x.drop(t, 2*i)
		}
	}
	x.wantAll(t)
	for i := range count {
		x.drop(t, 2*i+1)
		x.drop(t, 2*i+1)
		x.wantGet(t, 2*i+1)
	}
	x.wantAll(t)
}

// P7.2, P7.3: as many keys as may be, one more, and one of them put anew.
func TestMaxItems(t *testing.T) {
	for _, row := range rows(api.MaxItems) {
		full(t, names(), 3, row)
		full(t, coords(), 64, row)
	}
}

func full[K any](t *testing.T, f family[K], most int, row []int) {
	t.Helper()
	x := f.try(t, most)
	x.putAll(t, row)
	x.wantAll(t)
	refused := func() {
		t.Helper()
		for _, i := range []int{api.MaxItems, api.MaxItems + 1, api.MaxItems + 300} {
			if is, e := x.tree.Put(x.key(i), 9); is || e != api.ErrFull {
				t.Fatalf("Put of one more: %t, error %d", is, int(e))
			}
			x.wantGet(t, i)
		}
	}
	refused()
	for _, i := range []int{0, 1, 30000, api.MaxItems - 1} {
		x.put(t, i, math.MaxUint64)
	}
	x.wantAll(t)
	for _, i := range []int{0, 40000, api.MaxItems - 1} {
		x.drop(t, i)
		x.put(t, api.MaxItems+5, 2)
		refused()
		if is, e := x.tree.Put(x.key(i), 9); is || e != api.ErrFull {
			t.Fatalf("Put of a key that was dropped: %t, error %d", is, int(e))
		}
		x.drop(t, api.MaxItems+5)
		x.put(t, i, 3)
	}
	refused()
	x.wantKeys(t)
	for _, i := range row {
		x.drop(t, i)
	}
	x.wantAll(t)
	x.put(t, api.MaxItems, 1)
}

// P7.3: Span of all lows and highs that are keys, between keys, below them and above them.
func TestSpans(t *testing.T) {
	for _, most := range []int{3, 4, 5, 63, 64} {
		for _, count := range []int{0, 1, most, most + 1, 45} {
			spans(t, names(), most, count)
			spans(t, coords(), most, count)
		}
	}
}

func spans[K any](t *testing.T, f family[K], most, count int) {
	t.Helper()
	x := f.try(t, most)
	for _, i := range rows(count)["mixed"] {
		x.put(t, 2*i+2, 1)
	}
	for low := range 2*count + 5 {
		for high := range 2*count + 5 {
			want := []K{}
			for i := low; i < high; i++ {
				if _, is := x.model[i]; is {
					want = append(want, x.key(i))
				}
			}
			if got := x.tree.Span(x.key(low), x.key(high)); !x.sameKeys(got, want) {
				t.Fatalf("%d keys, Span of keys %d and %d: %v; want %v", count, low, high, got, want)
			}
		}
	}
	x.wantAll(t)
}

// P7.3: Span in a tree of several levels of great nodes.
func TestSpansOfAGreatTree(t *testing.T) {
	for _, most := range []int{3, 64} {
		x := coords().try(t, most)
		x.putAll(t, rows(9000)["mixed"])
		all, chance := x.tree.Keys(), chances(5)
		for range 200 {
			low, high := chance(9100), chance(9100)
			want := [][]int{}
			if low < high {
				want = all[min(low, 9000):min(high, 9000)]
			}
			if got := x.tree.Span(x.key(low), x.key(high)); !x.sameKeys(got, want) {
				t.Fatalf("Span of keys %d and %d: %d keys; want %d", low, high, len(got), len(want))
			}
		}
	}
}

// wantNothing asks that a tree that is none answers ErrNil or zero values, whatever key it is asked for.
func wantNothing[K any](t *testing.T, x *btree.Tree[K], some ...K) {
	t.Helper()
	for _, k := range some {
		for range 2 {
			if is, e := x.Put(k, 5); is || e != api.ErrNil {
				t.Errorf("Put(%v): %t, error %d", k, is, int(e))
			}
			if v, is := x.Get(k); v != 0 || is {
				t.Errorf("Get(%v): %d, %t", k, v, is)
			}
			if x.Drop(k) {
				t.Errorf("Drop(%v)", k)
			}
			if l := x.Span(some[0], k); len(l) != 0 {
				t.Errorf("Span: %v", l)
			}
			if x.Len() != 0 || len(x.Keys()) != 0 || len(x.Nodes()) != 0 {
				t.Errorf("%d keys: %v, %v", x.Len(), x.Keys(), x.Nodes())
			}
		}
	}
}

// P7.2, P7.3, P7.4, rule 1: a tree that is nil, or that no call made, of any keys.
func TestNoTree(t *testing.T) {
	for _, x := range []*btree.Tree[string]{nil, {}, new(btree.Tree[string]), btree.NewNames(2)} {
		wantNothing(t, x, "", "a", "ab", "\xff")
	}
	for _, x := range []*btree.Tree[[]int]{nil, {}, new(btree.Tree[[]int]), btree.NewCoords(65)} {
		wantNothing(t, x, nil, []int{}, []int{0}, []int{math.MinInt, math.MaxInt})
	}
	for _, x := range []*btree.Tree[float64]{nil, {}} {
		wantNothing(t, x, 0, math.NaN(), math.Inf(1))
	}
	for _, x := range []*btree.Tree[any]{nil, {}} {
		wantNothing[any](t, x, nil, 1, "a", []int{1}, func() {})
	}
}

// Rule 1: a Tree that somebody copied never panics, whatever is done to either.
func TestCopiedTree(t *testing.T) {
	for _, most := range []int{3, 4} {
		for seed := range uint32(30) {
			chance := chances(seed)
			x := btree.NewNames(most)
			var trees []*btree.Tree[string]
			for step := range 300 {
				if step%60 == 0 {
					other := *x
					trees = append(trees, x, &other)
				}
				tree := trees[chance(len(trees))]
				if chance(10) < 2+step/100*3 {
					tree.Drop(nameOf(chance(40)))
				} else {
					tree.Put(nameOf(chance(40)), 1)
				}
				tree.Keys()
				tree.Nodes()
				tree.Span("", nameOf(20))
			}
		}
	}
}

// Rule 5: what is answered hangs on no other tree, and asking changes nothing.
func TestTreesStandApart(t *testing.T) {
	x, y := names().try(t, 3), names().try(t, 3)
	x.putAll(t, []int{1, 2, 3, 4, 5, 6})
	y.putAll(t, []int{4, 5, 6, 7, 8})
	for range 3 {
		x.wantAll(t)
		y.wantAll(t)
	}
	x.drop(t, 4)
	y.put(t, 1, 99)
	x.wantAll(t)
	y.wantAll(t)
}
