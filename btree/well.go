package btree

// order is how far the keys and the branches' bounds were passed, from left to right.
type order struct {
	last string
	// Whether last is an entry's key: nothing behind it may be the same.
	isKey bool
}

// passes tells whether a key or bound may come next, and goes on to it.
func (o *order) passes(next string, isKey bool) bool {
	rises := next > o.last || next == o.last && !o.isKey
	o.last, o.isKey = next, isKey
	return rises
}

// height is how many levels there are from n down; false, if n or what is under it is not well-formed. n must have at least fewest entries or children.
func (n *node) height(fewest int, o *order) (int, bool) {
	if n.size() < fewest || n.size() > most || len(n.entries) > 0 && !n.isLeaf() {
		return 0, false
	}
	for _, e := range n.entries {
		if !o.passes(e.key, true) {
			return 0, false
		}
	}
	under := 0
	for i, b := range n.branches {
		if !o.passes(b.low, false) {
			return 0, false
		}
		levels, well := b.child.height(least, o)
		if !well || i > 0 && levels != under {
			return 0, false
		}
		under = levels
	}
	return under + 1, true
}
