package btree_test

import (
	"fmt"
	"slices"
	"testing"

	"slabvault/btree"
)

// reader reads the nodes of a tree one behind another, as chapter 7 says that they are told.
type reader[K any] struct {
	t        *testing.T
	rest     []btree.Node[K]
	most     int
	leafAt   int // the level of all leaves, or -1 as long as none was read
	inOrder  []K
	greatest int // the greatest level
}

// node reads one node and all below it.
func (r *reader[K]) node(level int) {
	r.t.Helper()
	if len(r.rest) == 0 {
		r.t.Fatalf("a node of level %d is missing", level)
	}
	n := r.rest[0]
	r.rest = r.rest[1:]
	least := r.most / 2
	if level == 0 {
		least = 1
	}
	if n.Level != level || len(n.Keys) < least || len(n.Keys) > r.most {
		r.t.Fatalf("a node of level %d has Level %d and %d keys; want %d to %d", level, n.Level, len(n.Keys), least, r.most)
	}
	r.greatest = max(r.greatest, level)
	if n.Leaf {
		r.leaf(n)
		return
	}
	for _, k := range n.Keys {
		r.node(level + 1)
		r.inOrder = append(r.inOrder, k)
	}
	r.node(level + 1)
}

func (r *reader[K]) leaf(n btree.Node[K]) {
	r.t.Helper()
	if r.leafAt >= 0 && r.leafAt != n.Level {
		r.t.Fatalf("leaves of levels %d and %d", r.leafAt, n.Level)
	}
	r.leafAt = n.Level
	r.inOrder = append(r.inOrder, n.Keys...)
}

// deepest tells the greatest level that a tree with so many keys may have.
func deepest(count, most int) int {
	log := 0
	for power := most/2 + 1; power <= count; power *= most/2 + 1 {
		log++
	}
	return log + 1
}

// wantShape asks that nodes are those of a tree with just those keys.
func wantShape[K any](t *testing.T, f family[K], nodes []btree.Node[K], most int, keys []K) {
	t.Helper()
	if len(keys) == 0 {
		if len(nodes) != 0 {
			t.Fatalf("a tree without a key has nodes: %v", nodes)
		}
		return
	}
	r := &reader[K]{t: t, rest: nodes, most: most, leafAt: -1}
	r.node(0)
	if len(r.rest) != 0 {
		t.Fatalf("%d nodes too many: %.20v", len(r.rest), r.rest)
	}
	if !f.sameKeys(r.inOrder, keys) {
		t.Fatalf("the nodes' keys: %.20v; want %.20v", r.inOrder, keys)
	}
	if r.greatest > deepest(len(keys), most) {
		t.Fatalf("%d keys, at most %d in a node: level %d", len(keys), most, r.greatest)
	}
}

// P7.6: what the bound is.
func TestDeepest(t *testing.T) {
	for _, x := range []struct{ count, most, want int }{{1, 3, 1}, {2, 3, 2}, {3, 3, 2}, {4, 3, 3}, {7, 3, 3}, {8, 3, 4}, {2, 4, 1}, {3, 4, 2}, {9, 5, 3}, {32, 64, 1}, {33, 64, 2}, {33*33 - 1, 64, 2}, {33 * 33, 64, 3}} {
		if got := deepest(x.count, x.most); got != x.want {
			t.Errorf("deepest(%d, %d) = %d; want %d", x.count, x.most, got, x.want)
		}
	}
}

// P7.2 to P7.6: keys are put in each order and dropped in each order until none is left; the shape behind each step.
func TestShapesBehindEachStep(t *testing.T) {
	for most, count := range map[int]int{3: 90, 4: 90, 5: 110, 6: 110, 63: 260, 64: 260} {
		for putting, puts := range rows(count) {
			for dropping, drops := range rows(count) {
				t.Run(fmt.Sprintf("%d/%s/%s", most, putting, dropping), func(t *testing.T) {
					putAndDrop(t, names(), most, puts, drops, 1)
					putAndDrop(t, coords(), most, puts, drops, 1)
				})
			}
		}
	}
}

// P7.2 to P7.6: trees of more levels, the shape looked at now and then.
func TestShapesOfGreatTrees(t *testing.T) {
	for _, most := range []int{3, 5, 63, 64} {
		for _, puts := range rows(5000) {
			for _, drops := range rows(5000) {
				putAndDrop(t, coords(), most, puts, drops, 311)
			}
		}
	}
}

// putAndDrop puts and drops keys, and looks at the tree behind each so many steps.
func putAndDrop[K any](t *testing.T, f family[K], most int, puts, drops []int, each int) {
	t.Helper()
	x := f.try(t, most)
	x.wantAll(t)
	for step, i := range puts {
		x.put(t, i, uint64(step))
		if step%each == 0 {
			x.wantKeys(t)
		}
	}
	x.wantAll(t)
	for step, i := range drops {
		x.drop(t, i)
		x.wantGet(t, i)
		if step%each == 0 {
			x.wantKeys(t)
		}
		if step == len(drops)/2 {
			x.wantAll(t)
		}
	}
	x.wantAll(t)
	x.put(t, 1, 1)
	x.wantAll(t)
}

// P7.4: no key, one, as many as one node may have, and one more.
func TestRootAlone(t *testing.T) {
	for most := 3; most <= 64; most++ {
		for _, row := range rows(most) {
			rootAlone(t, names(), most, row)
			rootAlone(t, coords(), most, row)
		}
	}
}

func rootAlone[K any](t *testing.T, f family[K], most int, row []int) {
	t.Helper()
	x := f.try(t, most)
	x.wantAll(t)
	for _, i := range row {
		x.put(t, i, 1)
		x.wantKeys(t)
		if l := x.tree.Nodes(); len(l) != 1 || !l[0].Leaf || l[0].Level != 0 {
			t.Fatalf("%d keys, at most %d in a node: %v", x.tree.Len(), most, l)
		}
	}
	x.put(t, most, 1)
	x.wantAll(t)
	l := x.tree.Nodes()
	if len(l) != 3 || l[0].Leaf || len(l[0].Keys) != 1 || !l[1].Leaf || !l[2].Leaf || l[1].Level != 1 || l[2].Level != 1 {
		t.Fatalf("%d keys, at most %d in a node: %v", x.tree.Len(), most, l)
	}
	x.drop(t, 0)
	x.wantAll(t)
}

// permute hands each row of so many of the numbers behind a place, in any order, to one who looks at it.
func permute(numbers []int, from, size int, look func([]int)) {
	if from == size {
		look(numbers[:size])
		return
	}
	for i := from; i < len(numbers); i++ {
		numbers[from], numbers[i] = numbers[i], numbers[from]
		permute(numbers, from+1, size, look)
		numbers[from], numbers[i] = numbers[i], numbers[from]
	}
}

// P7.2 to P7.5: a few keys in all orders in which they may be put.
func TestAllOrdersOfPuts(t *testing.T) {
	for _, most := range []int{3, 4, 5} {
		permute([]int{0, 1, 2, 3, 4, 5, 6}, 0, 7, func(row []int) {
			x := names().try(t, most)
			x.putAll(t, row)
			x.wantKeys(t)
		})
	}
}

// P7.2 to P7.5: all rows of a few keys that may be dropped, from trees of some shapes.
func TestAllOrdersOfDrops(t *testing.T) {
	for _, most := range []int{3, 4, 5} {
		for _, puts := range rows(8) {
			permute([]int{0, 1, 2, 3, 4, 5, 6, 7}, 0, 5, func(row []int) {
				x := names().try(t, most)
				for _, i := range puts {
					x.put(t, i, 1)
				}
				for _, i := range row {
					x.drop(t, i)
					x.wantKeys(t)
				}
			})
		}
	}
}

// P7.2 to P7.6: each key of a tree is dropped alone, wherever it stands, and put again.
func TestDropOfEachKey(t *testing.T) {
	for _, most := range []int{3, 4, 5, 64} {
		for _, count := range []int{1, 2, most, most + 1, 40, 200} {
			for i := range count {
				x := coords().try(t, most)
				x.putAll(t, rows(count)["mixed"])
				x.drop(t, i)
				x.wantKeys(t)
				x.drop(t, i)
				x.put(t, i, 5)
				x.wantKeys(t)
				x.wantGet(t, i)
			}
		}
	}
}

// P7.5: what was put and dropped in another order makes the same keys and numbers.
func TestKeysHangOnNoOrder(t *testing.T) {
	for _, most := range []int{3, 4, 63, 64} {
		var first *tried[string]
		for name, row := range rows(700) {
			x := names().try(t, most)
			x.putAll(t, row)
			for _, i := range row {
				if i%3 == 1 {
					x.drop(t, i)
				}
			}
			x.wantAll(t)
			if first == nil {
				first = x
			}
			if !slices.Equal(x.tree.Keys(), first.tree.Keys()) {
				t.Errorf("%s: %.20v; want %.20v", name, x.tree.Keys(), first.tree.Keys())
			}
		}
	}
}

// P7.2 to P7.6: long rows of steps, as chance would have them.
func TestLongRowsOfSteps(t *testing.T) {
	for _, most := range []int{3, 4, 5, 6, 7, 63, 64} {
		for seed := range uint32(4) {
			longRow(t, names(), most, chances(seed))
			longRow(t, coords(), most, chances(seed+100))
		}
	}
}

func longRow[K any](t *testing.T, f family[K], most int, chance func(int) int) {
	t.Helper()
	x := f.try(t, most)
	for step := range 1500 {
		i := chance(400)
		// Now there are more puts, now more drops, so that the tree grows and shrinks.
		if chance(10) < 3+step/250%2*4 {
			x.drop(t, i)
		} else {
			x.put(t, i, uint64(step)<<40)
		}
		x.wantGet(t, chance(400))
		if step%10 == 0 {
			x.wantKeys(t)
		}
	}
	x.wantAll(t)
}
