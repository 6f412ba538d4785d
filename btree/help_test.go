package btree_test

import (
	"maps"
	"slices"
	"testing"

	"slabvault/api"
	"slabvault/btree"
)

// family is a kind of trees, and keys for them that rise with their number. Key 0 is the empty one, and some keys begin the next.
type family[K any] struct {
	make func(most int) *btree.Tree[K]
	key  func(i int) K
	same func(a, b K) bool
}

func names() family[string] {
	return family[string]{btree.NewNames, nameOf, func(a, b string) bool { return a == b }}
}

func coords() family[[]int] {
	return family[[]int]{btree.NewCoords, coordsOf, slices.Equal[[]int]}
}

func nameOf(i int) string {
	if i == 0 {
		return ""
	}
	i--
	head := string([]byte{byte(i / 3 >> 8), byte(i / 3)})
	return head + []string{"", "\x00", "\x00\xff"}[i%3]
}

func coordsOf(i int) []int {
	if i == 0 {
		return nil
	}
	i--
	head := []int{i/3>>8 - 50, i/3&255 - 128}
	return append(head, [][]int{{}, {-5}, {-5, 7}}[i%3]...)
}

// keysOf tells the keys of numbers.
func (f family[K]) keysOf(numbers []int) []K {
	out := []K{}
	for _, i := range numbers {
		out = append(out, f.key(i))
	}
	return out
}

func (f family[K]) sameKeys(a, b []K) bool { return slices.EqualFunc(a, b, f.same) }

// tried is a tree with a model beside it: the values of its keys, by the keys' numbers.
type tried[K any] struct {
	family[K]
	tree  *btree.Tree[K]
	most  int
	model map[int]uint64
}

func (f family[K]) try(t *testing.T, most int) *tried[K] {
	t.Helper()
	tree := f.make(most)
	if tree == nil {
		t.Fatalf("no tree of nodes of %d keys", most)
	}
	return &tried[K]{f, tree, most, map[int]uint64{}}
}

// put puts a key into both, and asks whether it is told to be new just if it is.
func (x *tried[K]) put(t *testing.T, i int, v uint64) {
	t.Helper()
	_, was := x.model[i]
	if is, e := x.tree.Put(x.key(i), v); is == was || e != api.OK {
		t.Fatalf("Put of key %d: %t, error %d; want %t, error 0", i, is, int(e), !was)
	}
	x.model[i] = v
}

// drop drops a key from both, and asks whether it is told just if it was there.
func (x *tried[K]) drop(t *testing.T, i int) {
	t.Helper()
	_, was := x.model[i]
	if is := x.tree.Drop(x.key(i)); is != was {
		t.Fatalf("Drop of key %d: %t; want %t", i, is, was)
	}
	delete(x.model, i)
}

func (x *tried[K]) putAll(t *testing.T, numbers []int) {
	t.Helper()
	for _, i := range numbers {
		x.put(t, i, uint64(i)+7)
	}
}

func (x *tried[K]) wantGet(t *testing.T, i int) {
	t.Helper()
	want, has := x.model[i]
	if v, is := x.tree.Get(x.key(i)); v != want || is != has {
		t.Fatalf("Get of key %d: %d, %t; want %d, %t", i, v, is, want, has)
	}
}

// wantKeys asks that the tree has just the keys of the model, in order, in a good shape.
func (x *tried[K]) wantKeys(t *testing.T) {
	t.Helper()
	want := x.keysOf(slices.Sorted(maps.Keys(x.model)))
	if got := x.tree.Keys(); !x.sameKeys(got, want) || x.tree.Len() != len(want) {
		t.Fatalf("%d keys: %.20v; want %d: %.20v", x.tree.Len(), got, len(want), want)
	}
	wantShape(t, x.family, x.tree.Nodes(), x.most, want)
}

// wantAll asks for all that a tree tells.
func (x *tried[K]) wantAll(t *testing.T) {
	t.Helper()
	x.wantKeys(t)
	for i := range x.model {
		for _, other := range []int{i - 1, i, i + 1} {
			if other >= 0 {
				x.wantGet(t, other)
			}
		}
	}
}

// rows are the orders in which so many keys are put and dropped.
func rows(count int) map[string][]int {
	rising, mixed := []int{}, []int{}
	for i := range count {
		rising = append(rising, i)
	}
	falling := slices.Clone(rising)
	slices.Reverse(falling)
	// 7919 is a prime, and no count is a multiple of it: each number comes once.
	for i := range count {
		mixed = append(mixed, (i*7919+count/3)%count)
	}
	return map[string][]int{"rising": rising, "falling": falling, "mixed": mixed}
}

// chances tells a row of numbers that look like chance, the same each time.
func chances(seed uint32) func(n int) int {
	return func(n int) int {
		seed = seed*1664525 + 1013904223
		return int(seed>>8) % n
	}
}
