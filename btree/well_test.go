package btree

import (
	"math/rand"
	"strconv"
	"testing"

	"stile/api"
)

// keyOf is a key whose place among its like is n's among numbers from 0 on.
func keyOf(n int) string {
	digits := strconv.Itoa(n)
	return "00000000"[len(digits):] + digits
}

// formed asks Well, and holds a tree's nodes against the chapter's words level by level, as Well does not; how many levels there are.
func formed(t *testing.T, what string, tree *Tree) int {
	t.Helper()
	if !tree.Well() {
		t.Fatalf("%s: Well is false", what)
	}
	level, deep := []*node{&tree.root}, 1
	for len(level[0].branches) > 0 {
		var below []*node
		var lows []string
		for i, n := range level {
			if len(n.entries) > 0 || len(n.branches) > 8 || len(n.branches) < 4 && (deep > 1 || i > 0) || len(n.branches) < 2 {
				t.Fatalf("%s: a node of level %d has %d entries, %d children", what, deep, len(n.entries), len(n.branches))
			}
			for _, b := range n.branches {
				below, lows = append(below, b.child), append(lows, b.low)
			}
		}
		rises(t, what, lows)
		for i, n := range below {
			bounded(t, what, n, lows, i)
		}
		level = below
		deep++
	}
	var keys []string
	for _, n := range level {
		if len(n.branches) > 0 || len(n.entries) > 8 || len(n.entries) < 4 && deep > 1 {
			t.Fatalf("%s: a leaf has %d entries, %d children", what, len(n.entries), len(n.branches))
		}
		for _, e := range n.entries {
			keys = append(keys, e.key)
		}
	}
	rises(t, what, keys)
	return deep
}

func rises(t *testing.T, what string, keys []string) {
	t.Helper()
	for i := 1; i < len(keys); i++ {
		if keys[i] <= keys[i-1] {
			t.Fatalf("%s: %.20q is behind %.20q", what, keys[i], keys[i-1])
		}
	}
}

// bounded asks that all that stands in a node lies between its low and the next one's.
func bounded(t *testing.T, what string, n *node, lows []string, at int) {
	t.Helper()
	var keys []string
	for _, e := range n.entries {
		keys = append(keys, e.key)
	}
	for _, b := range n.branches {
		keys = append(keys, b.low)
	}
	for _, key := range keys {
		if key < lows[at] || at+1 < len(lows) && key >= lows[at+1] {
			t.Fatalf("%s: %.20q lies beyond its node's bounds", what, key)
		}
	}
}

// orders are ways to go through the numbers below n.
func orders(n int) map[string][]int {
	rising, falling, ends := make([]int, n), make([]int, n), make([]int, n)
	for i := range n {
		rising[i], falling[i] = i, n-1-i
		ends[i] = i / 2
		if i%2 > 0 {
			ends[i] = n - 1 - i/2
		}
	}
	inwards := make([]int, n)
	for i := range n {
		inwards[i] = ends[n-1-i]
	}
	return map[string][]int{
		"rising":      rising,
		"falling":     falling,
		"from ends":   ends,
		"from within": inwards,
		"mixed":       rand.New(rand.NewSource(7)).Perm(n),
		"mixed again": rand.New(rand.NewSource(8)).Perm(n),
	}
}

// Trees of all sizes up to four levels, filled in each order and emptied in each order.
func TestWellUpAndDown(t *testing.T) {
	const n = 400
	for up, filling := range orders(n) {
		for down, emptying := range orders(n) {
			what := "P9.2: filled " + up + ", emptied " + down
			tree, deepest := New(), 0
			for i, k := range filling {
				inserts(t, what, tree, keyOf(k), k, api.OK)
				deepest = max(deepest, formed(t, what, tree))
				counts(t, what, tree, i+1, 0)
			}
			if deepest < 4 {
				t.Errorf("%s: %d levels alone", what, deepest)
			}
			for i, k := range emptying {
				ghosts(t, what, tree, keyOf(k), api.OK)
				formed(t, what, tree)
				counts(t, what, tree, n-i-1, 1)
				purges(t, what, tree, keyOf(k), api.OK)
				formed(t, what, tree)
				counts(t, what, tree, n-i-1, 0)
			}
			if deep := formed(t, what, tree); deep != 1 {
				t.Errorf("%s: %d levels for no entry", what, deep)
			}
			nextFails(t, what, tree, "", true)
		}
	}
}

// All entries are there at every size, up and down, ghosts among them.
func TestNextPassesEachOnce(t *testing.T) {
	const n = 200
	for up, filling := range orders(n) {
		for down, emptying := range orders(n) {
			what := "P9.3: filled " + up + ", emptied " + down
			tree, there := New(), make([]told, n)
			same := func() {
				t.Helper()
				var want []told
				for _, e := range there {
					if e.key != "" {
						want = append(want, e)
					}
				}
				holds(t, what, tree, want...)
			}
			for i, k := range filling {
				tree.Insert(keyOf(k), i)
				there[k] = told{keyOf(k), i, false}
				if i%3 == 0 {
					tree.Ghost(keyOf(k))
					there[k].ghost = true
				}
				same()
			}
			for _, k := range emptying {
				tree.Ghost(keyOf(k))
				there[k].ghost = true
				same()
				tree.Purge(keyOf(k))
				there[k] = told{}
				same()
			}
		}
	}
}

// Next finds its way from each place, and between any two leaves.
func TestNextFromEveryPlace(t *testing.T) {
	for _, n := range []int{1, 7, 8, 9, 33, 64, 65, 300, 1200} {
		for order, numbers := range orders(n) {
			what := "P9.1: " + strconv.Itoa(n) + " entries, " + order
			tree := New()
			for _, k := range numbers {
				inserts(t, what, tree, keyOf(3*k+3), k, api.OK)
			}
			// Purged keys leave bounds behind them that no entry has.
			gone := func(k int) bool { return k%7 == 2 || k > n/2 && k < n/2+20 }
			for k := range n {
				if gone(k) {
					tree.Ghost(keyOf(3*k + 3))
					purges(t, what, tree, keyOf(3*k+3), api.OK)
				}
			}
			formed(t, what, tree)
			for place := range 3*n + 6 {
				for _, itself := range []bool{false, true} {
					k := max((place+2)/3-1, 0)
					if !itself && place > 0 && place%3 == 0 {
						k++
					}
					for k < n && gone(k) {
						k++
					}
					if k < n {
						next(t, what, tree, keyOf(place), itself, told{keyOf(3*k + 3), k, false})
					} else {
						nextFails(t, what, tree, keyOf(place), itself)
					}
				}
			}
		}
	}
}

// A tree of few entries that goes to and fro stays well-formed where nodes become one and two.
func TestWellToAndFro(t *testing.T) {
	for _, most := range []int{1, 8, 9, 17, 40, 70, 300} {
		tree, there := New(), map[int]bool{}
		r := rand.New(rand.NewSource(int64(most)))
		for range 4000 {
			k := r.Intn(2 * most)
			switch {
			case there[k]:
				ghosts(t, "P9.2", tree, keyOf(k), api.OK)
				purges(t, "P9.2", tree, keyOf(k), api.OK)
				delete(there, k)
			default:
				inserts(t, "P9.2", tree, keyOf(k), k, api.OK)
				there[k] = true
			}
			formed(t, "P9.2: to and fro", tree)
			counts(t, "P9.2: to and fro", tree, len(there), 0)
		}
	}
}

// leafOf is a leaf of the keys of some numbers.
func leafOf(numbers ...int) *node {
	n := &node{}
	for _, k := range numbers {
		n.entries = append(n.entries, entry{key: keyOf(k)})
	}
	return n
}

// over is a node over some others, whose bounds are their first ones'.
func over(children ...*node) *node {
	n := &node{}
	for i, c := range children {
		low := ""
		if i > 0 {
			low = c.low()
		}
		n.branches = append(n.branches, branch{low: low, child: c})
	}
	return n
}

func TestWellTellsOfTheForm(t *testing.T) {
	four := func(from int) *node { return leafOf(from, from+1, from+2, from+3) }
	middle := func(from int) *node { return over(four(from), four(from+10), four(from+20), four(from+30)) }
	second := func(n *node, low string) *node {
		n.branches[1].low = low
		return n
	}
	first := func(n *node, low string) *node {
		n.branches[0].low = low
		return n
	}
	for _, c := range []struct {
		what string
		root *node
		want bool
	}{
		{"no entry", leafOf(), true},
		{"one entry", leafOf(1), true},
		{"eight entries", leafOf(1, 2, 3, 4, 5, 6, 7, 8), true},
		{"nine entries", leafOf(1, 2, 3, 4, 5, 6, 7, 8, 9), false},
		{"falling keys", leafOf(2, 1), false},
		{"a key twice", leafOf(1, 1), false},
		{"two leaves", over(four(1), four(10)), true},
		{"eight leaves", over(four(1), four(11), four(21), four(31), four(41), four(51), four(61), four(71)), true},
		{"nine leaves", over(four(1), four(11), four(21), four(31), four(41), four(51), four(61), four(71), four(81)), false},
		{"three entries", over(leafOf(1, 2, 3), four(10)), false},
		{"three entries at the end", over(four(1), leafOf(10, 11, 12)), false},
		{"a leaf of nine", over(four(1), leafOf(11, 12, 13, 14, 15, 16, 17, 18, 19)), false},
		{"leaves in falling order", over(four(10), four(1)), false},
		{"a key in two leaves", over(four(1), four(4)), false},
		{"a bound that is the last key ahead", second(over(four(1), four(10)), keyOf(4)), false},
		{"a bound among the keys ahead", second(over(four(1), four(10)), keyOf(3)), false},
		{"a bound between", second(over(four(1), four(10)), keyOf(5)), true},
		{"a bound among the keys behind", second(over(four(1), four(10)), keyOf(11)), false},
		{"a bound above all", second(over(four(1), four(10)), keyOf(99)), false},
		{"a first bound above a key", first(over(four(1), four(10)), keyOf(2)), false},
		{"three levels", over(middle(1), first(middle(101), keyOf(101))), true},
		{"a middle of three", over(middle(1), first(over(four(101), four(111), four(121)), keyOf(101))), false},
		{"a wrong leaf deep down", over(middle(1), first(over(four(101), four(111), leafOf(121, 122, 123), four(131)), keyOf(101))), false},
		{"a leaf beside a middle", over(middle(1), four(101)), false},
		{"a middle beside a leaf", over(four(1), first(middle(101), keyOf(101))), false},
		{"middles in falling order", over(first(middle(101), keyOf(101)), middle(1)), false},
		{"a leaf at another depth", over(middle(1), first(over(four(101), four(111), four(121), first(middle(131), keyOf(131))), keyOf(101))), false},
		{"entries beside children", &node{entries: leafOf(1).entries, branches: first(over(four(11), four(21)), keyOf(11)).branches}, false},
	} {
		tree := &Tree{root: *c.root}
		if tree.Well() != c.want {
			t.Errorf("P9.2: %s: Well is %v", c.what, !c.want)
		}
	}
}
