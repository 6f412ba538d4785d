package btree_test

import (
	"slices"
	"testing"

	"slabvault/api"
	"slabvault/btree"
)

// behind stands in the spare room of what is handed in.
const behind = 0x5eed

// guarded tells coordinates with spare room, and that same memory whole.
func guarded(coords []int) (part, whole []int) {
	whole = append(slices.Clone(coords), behind, behind, behind, behind)
	return whole[:len(coords)], whole
}

// scribble writes all over a list, spare room too.
func scribble[T any](l []T, with T) {
	l = l[:cap(l)]
	for i := range l {
		l[i] = with
	}
}

// scribbleAll writes all over coordinates and the list of them.
func scribbleAll(l [][]int) {
	for _, c := range l[:cap(l)] {
		scribble(c, -77)
	}
	scribble(l, []int{-78})
}

// wantNoLeak asks that nothing of an argument's spare room is handed out.
func wantNoLeak(t *testing.T, l [][]int) {
	t.Helper()
	for _, c := range l {
		if slices.Contains(c[:cap(c)], behind) {
			t.Errorf("what stood behind the length is handed out: %v", c[:cap(c)])
		}
	}
}

// Rule 4: coordinates that were put stay as they were when the one who put them writes over them.
func TestPutCoordsAreLeftAlone(t *testing.T) {
	for _, most := range []int{3, 4, 64} {
		x := coords().try(t, most)
		for _, i := range rows(200)["mixed"] {
			for range 2 {
				part, whole := guarded(x.key(i))
				before := slices.Clone(whole)
				if _, e := x.tree.Put(part, uint64(i)); e != api.OK {
					t.Fatalf("Put: error %d", int(e))
				}
				if !slices.Equal(whole, before) {
					t.Fatal("Put changed what it was given")
				}
				x.model[i] = uint64(i)
				scribble(whole, -99)
			}
		}
		x.wantAll(t)
		wantNoLeak(t, x.tree.Keys())
	}
}

// Rule 4: one memory, put again and again with other numbers in it, makes as many keys.
func TestOneMemoryPutAgain(t *testing.T) {
	x, c := coords().try(t, 3), make([]int, 0, 8)
	for i := range 50 {
		c = append(c[:0], x.key(i)...)
		if is, e := x.tree.Put(c, 1); !is || e != api.OK {
			t.Fatalf("Put: %t, error %d", is, int(e))
		}
		x.model[i] = 1
	}
	x.wantAll(t)
}

// Rule 4: Get, Drop, Span and a Put that is refused leave what they are given, and do not keep it.
func TestArgumentsAreLeftAlone(t *testing.T) {
	x := coords().try(t, 4)
	x.putAll(t, rows(100)["mixed"])
	low, wholeLow := guarded(x.key(20))
	high, wholeHigh := guarded(x.key(60))
	beforeLow, beforeHigh := slices.Clone(wholeLow), slices.Clone(wholeHigh)
	span := x.tree.Span(low, high)
	wantNoLeak(t, span)
	x.tree.Get(low)
	(*btree.Tree[[]int])(nil).Put(low, 1)
	new(btree.Tree[[]int]).Span(low, high)
	if !x.tree.Drop(high) || x.tree.Drop(high) {
		t.Error("Drop")
	}
	delete(x.model, 60)
	if !slices.Equal(wholeLow, beforeLow) || !slices.Equal(wholeHigh, beforeHigh) {
		t.Error("what was given is changed")
	}
	scribble(wholeLow, -5)
	scribble(wholeHigh, -5)
	if !x.sameKeys(span, x.keysOf(rows(60)["rising"][20:])) {
		t.Error("Span shares memory with what it was given")
	}
	x.wantAll(t)
}

// Rule 4: a full tree that refuses coordinates leaves them too.
func TestRefusedCoordsAreLeftAlone(t *testing.T) {
	x := coords().try(t, 64)
	x.putAll(t, rows(api.MaxItems)["rising"])
	part, whole := guarded([]int{1 << 40})
	before := slices.Clone(whole)
	if _, e := x.tree.Put(part, 1); e != api.ErrFull || !slices.Equal(whole, before) {
		t.Errorf("error %d: %v", int(e), whole)
	}
}

// Rule 4: keys, spans, nodes and the coordinates within them are new memory each time.
func TestAnswersAreNewMemory(t *testing.T) {
	for _, most := range []int{3, 5, 64} {
		x := coords().try(t, most)
		x.putAll(t, rows(150)["mixed"])
		keys, otherKeys := x.tree.Keys(), x.tree.Keys()
		span, otherSpan := x.tree.Span(x.key(10), x.key(140)), x.tree.Span(x.key(10), x.key(140))
		nodes, otherNodes := x.tree.Nodes(), x.tree.Nodes()
		scribbleAll(keys)
		scribbleAll(span)
		for _, n := range nodes {
			scribbleAll(n.Keys)
		}
		scribble(nodes, btree.Node[[]int]{Level: -1})
		if !x.sameKeys(otherKeys, x.keysOf(rows(150)["rising"])) || !x.sameKeys(otherSpan, x.keysOf(rows(150)["rising"][10:140])) {
			t.Error("keys or spans are told in one memory twice")
		}
		wantShape(t, x.family, otherNodes, most, otherKeys)
		x.wantAll(t)
	}
}

// Rule 4: names that are handed out stand in new lists.
func TestNamesAreNewLists(t *testing.T) {
	x := names().try(t, 3)
	x.putAll(t, rows(40)["mixed"])
	keys, span, nodes := x.tree.Keys(), x.tree.Span(x.key(3), x.key(30)), x.tree.Nodes()
	scribble(keys, "over")
	scribble(span, "over")
	for _, n := range nodes {
		scribble(n.Keys, "over")
	}
	scribble(nodes, btree.Node[string]{})
	x.wantAll(t)
}

// Rule 4: no two lists of one answer share memory: one is written over, spare room too, and the others stay.
func TestListsOfOneAnswerStandApart(t *testing.T) {
	x := coords().try(t, 3)
	x.putAll(t, rows(60)["mixed"])
	want := x.tree.Keys()
	for i := range want {
		got := x.tree.Keys()
		scribble(got[i], -3)
		got[i] = want[i]
		if !x.sameKeys(got, want) {
			t.Fatalf("key %d shares memory with another", i)
		}
	}
	for i := range x.tree.Nodes() {
		nodes := x.tree.Nodes()
		kept := x.tree.Nodes()[i]
		scribbleAll(nodes[i].Keys)
		nodes[i] = kept
		wantShape(t, x.family, nodes, x.most, want)
	}
}

// Rule 4: what was handed out stays as it was, whatever is put and dropped behind it.
func TestAnswersStay(t *testing.T) {
	x := coords().try(t, 3)
	x.putAll(t, rows(60)["mixed"])
	keys, nodes := x.tree.Keys(), x.tree.Nodes()
	for i := range 60 {
		x.drop(t, i)
		x.put(t, 100+i, 1)
	}
	if !x.sameKeys(keys, x.keysOf(rows(60)["rising"])) {
		t.Error("keys that were handed out have changed")
	}
	wantShape(t, x.family, nodes, x.most, keys)
}

// Rule 7: what lies behind the length is not read.
func TestNothingBehindTheLengthIsRead(t *testing.T) {
	x := btree.NewCoords(3)
	x.Put([]int{1, 2, 3}[:2], 7)
	if _, is := x.Get([]int{1, 2, 3}); is {
		t.Error("a longer key is there")
	}
	if v, is := x.Get([]int{1, 2, 9}[:2]); v != 7 || !is {
		t.Error(v, is)
	}
	if btree.CmpCoords([]int{1, 2}[:1], []int{1, 1}[:1]) != 0 || btree.CmpCoords([]int{1, 9}[:1], []int{1, 1}) != -1 {
		t.Error("CmpCoords")
	}
}
