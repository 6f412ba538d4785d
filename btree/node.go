package btree

import "slices"

// item is a key with its number.
type item[K any] struct {
	key   K
	value uint64
}

// node has items, their keys rising, and, if it is no leaf, one child more: child i lies ahead of item i.
type node[K any] struct {
	items    []item[K]
	children []*node[K]
}

// find tells where a key stands among items, or where it would stand, and whether it does.
func find[K any](items []item[K], k K, order func(a, b K) int) (int, bool) {
	return slices.BinarySearchFunc(items, k, func(it item[K], k K) int { return order(it.key, k) })
}

// cutLast tells a list's last element, and the list without it.
func cutLast[T any](l []T) (T, []T) {
	end := len(l) - 1
	last := l[end]
	return last, slices.Delete(l, end, end+1)
}

// isLeaf says whether a node has no children.
func (n *node[K]) isLeaf() bool { return len(n.children) == 0 }

// least tells how few items a node may have that is not the root.
func (t *Tree[K]) least() int { return t.most / 2 }

// insert puts an item whose key is new below a node, which may have one item too many behind it.
func (t *Tree[K]) insert(n *node[K], it item[K]) {
	at, _ := find(n.items, it.key, t.order)
	if n.isLeaf() {
		n.items = slices.Insert(n.items, at, it)
		return
	}
	t.insert(n.children[at], it)
	if len(n.children[at].items) > t.most {
		n.split(at)
	}
}

// growRoot splits a root that has an item too many, below a new one.
func (t *Tree[K]) growRoot() {
	root := t.kept.root
	if len(root.items) <= t.most {
		return
	}
	t.kept.root = &node[K]{children: []*node[K]{root}}
	t.kept.root.split(0)
}

// split makes two of a child that has an item too many. Its middle item goes up between them, so that neither half has fewer than most / 2.
func (n *node[K]) split(at int) {
	left := n.children[at]
	middle := len(left.items) / 2
	up := left.items[middle]
	right := &node[K]{items: slices.Clone(left.items[middle+1:])}
	left.items = slices.Delete(left.items, middle, len(left.items))
	if !left.isLeaf() {
		right.children = slices.Clone(left.children[middle+1:])
		left.children = slices.Delete(left.children, middle+1, len(left.children))
	}
	n.items = slices.Insert(n.items, at, up)
	n.children = slices.Insert(n.children, at+1, right)
}

// remove takes the item of a key, which is there, out from below a node, which may have one item too few behind it.
func (t *Tree[K]) remove(n *node[K], k K) {
	at, is := find(n.items, k, t.order)
	switch {
	case n.isLeaf():
		n.items = slices.Delete(n.items, at, at+1)
		return
	case is:
		// Only a leaf can spare an item, so the one next ahead comes up in its place.
		n.items[at] = t.removeLast(n.children[at])
	default:
		t.remove(n.children[at], k)
	}
	t.refill(n, at)
}

// removeLast takes the last item out from below a node, which may have one item too few behind it.
func (t *Tree[K]) removeLast(n *node[K]) item[K] {
	if n.isLeaf() {
		last, rest := cutLast(n.items)
		n.items = rest
		return last
	}
	at := len(n.children) - 1
	last := t.removeLast(n.children[at])
	t.refill(n, at)
	return last
}

// shrinkRoot lets a root go that has nothing but a child.
func (t *Tree[K]) shrinkRoot() {
	root := t.kept.root
	if len(root.items) == 0 && !root.isLeaf() {
		t.kept.root = root.children[0]
	}
}

// refill mends a child that may have an item too few, by a neighbour that can spare one, or else by joining it to a neighbour.
func (t *Tree[K]) refill(n *node[K], at int) {
	if len(n.children[at].items) >= t.least() {
		return
	}
	switch {
	case at > 0 && t.canSpare(n.children[at-1]):
		n.turnRight(at - 1)
	case at < len(n.items) && t.canSpare(n.children[at+1]):
		n.turnLeft(at)
	case at > 0:
		n.join(at - 1)
	default:
		n.join(at)
	}
}

// canSpare says whether a node has more items than it must.
func (t *Tree[K]) canSpare(n *node[K]) bool { return len(n.items) > t.least() }

// turnRight moves the last item of the child ahead of item at up to its place, and that item down to the child behind it.
func (n *node[K]) turnRight(at int) {
	left, right := n.children[at], n.children[at+1]
	last, rest := cutLast(left.items)
	right.items = slices.Insert(right.items, 0, n.items[at])
	n.items[at], left.items = last, rest
	if !left.isLeaf() {
		child, others := cutLast(left.children)
		right.children = slices.Insert(right.children, 0, child)
		left.children = others
	}
}

// turnLeft moves the first item of the child behind item at up to its place, and that item down to the child ahead of it.
func (n *node[K]) turnLeft(at int) {
	left, right := n.children[at], n.children[at+1]
	left.items = append(left.items, n.items[at])
	n.items[at] = right.items[0]
	right.items = slices.Delete(right.items, 0, 1)
	if !right.isLeaf() {
		left.children = append(left.children, right.children[0])
		right.children = slices.Delete(right.children, 0, 1)
	}
}

// join makes one of the two children about item at, with that item between them. One of them has an item too few, and the other can spare none, so that all have room.
func (n *node[K]) join(at int) {
	left, right := n.children[at], n.children[at+1]
	left.items = append(append(left.items, n.items[at]), right.items...)
	left.children = append(left.children, right.children...)
	n.items = slices.Delete(n.items, at, at+1)
	n.children = slices.Delete(n.children, at+1, at+2)
}
