package btree

import (
	"slices"
	"sort"
)

// How many entries or children a node has at most, and one that is not the root at least.
const (
	most  = 8
	least = 4
)

// entry is a key with its number.
type entry struct {
	key    string
	number int
	ghost  bool
}

// branch leads to a child. No key below low is under it, and none from low on under the branches ahead of it.
// A node's first branch has the same low as the one that leads to the node (the root's has ""), so that branches may move from node to node as they are.
type branch struct {
	low   string
	child *node
}

// node is a leaf, which has entries, or leads to others, and has branches.
type node struct {
	entries  []entry
	branches []branch
}

func (n *node) isLeaf() bool { return len(n.branches) == 0 }

// size is how many entries or children it has.
func (n *node) size() int { return len(n.entries) + len(n.branches) }

// low is a bound that no key from n on is below.
func (n *node) low() string {
	if n.isLeaf() {
		return n.entries[0].key
	}
	return n.branches[0].low
}

// branchFor is the place of the branch under which a key belongs.
func (n *node) branchFor(key string) int {
	above := sort.Search(len(n.branches), func(i int) bool { return n.branches[i].low > key })
	// A key below all of them comes when Next has gone on to the next leaf, whose first entry it asks for.
	return max(above-1, 0)
}

// entryFrom is the place of the first entry above a key, or of the key itself, if itself is true; behind the last one, if there is none.
func (n *node) entryFrom(key string, itself bool) int {
	return sort.Search(len(n.entries), func(i int) bool {
		return n.entries[i].key > key || itself && n.entries[i].key == key
	})
}

// split leaves the child at a place that many entries or children; the others go to a new child behind it.
func (n *node) split(at, keep int) {
	child := n.branches[at].child
	fresh := &node{}
	if child.isLeaf() {
		child.entries, fresh.entries = cut(child.entries, keep)
	} else {
		child.branches, fresh.branches = cut(child.branches, keep)
	}
	n.branches = slices.Insert(n.branches, at+1, branch{low: fresh.low(), child: fresh})
}

// join brings all of the child behind the one at a place into that one.
func (n *node) join(at int) {
	child, next := n.branches[at].child, n.branches[at+1].child
	child.entries = append(child.entries, next.entries...)
	child.branches = append(child.branches, next.branches...)
	n.branches = slices.Delete(n.branches, at+1, at+2)
}

// splitFull halves the child at a place, if it has the most it may have; has it done so?
func (n *node) splitFull(at int) bool {
	if n.branches[at].child.size() < most {
		return false
	}
	n.split(at, least)
	return true
}

// fillShort brings the child at a place above the least it may have, if it has no more than that: it becomes one with a neighbour, or gets its share of what both have. Has it done so?
func (n *node) fillShort(at int) bool {
	if n.branches[at].child.size() > least {
		return false
	}
	left := max(at-1, 0)
	n.join(left)
	both := n.branches[left].child.size()
	if both <= most {
		return true
	}
	keep := both / 2
	if at == left {
		// Of an odd number the one more is for the child that was short.
		keep = both - keep
	}
	n.split(left, keep)
	return true
}

// cut is a list's first ones, that many, and the others, neither of which shares memory with the other.
func cut[T any](list []T, keep int) ([]T, []T) {
	return slices.Clone(list[:keep]), slices.Clone(list[keep:])
}
