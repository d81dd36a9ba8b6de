package btree

import (
	"math"
	"strings"
	"testing"

	"stile/api"
)

// told is an entry as Next tells it.
type told struct {
	key    string
	number int
	ghost  bool
}

// treeOf is a tree with live entries, whose numbers are their places from 1 on.
func treeOf(t *testing.T, keys ...string) *Tree {
	t.Helper()
	tree := New()
	for i, key := range keys {
		inserts(t, "P9.1", tree, key, i+1, api.OK)
	}
	return tree
}

func inserts(t *testing.T, what string, tree *Tree, key string, n int, want api.Errno) {
	t.Helper()
	if e := tree.Insert(key, n); e != want {
		t.Errorf("%s: Insert(%.20q, %d): %d, not %d", what, key, n, e, want)
	}
}

func ghosts(t *testing.T, what string, tree *Tree, key string, want api.Errno) {
	t.Helper()
	if e := tree.Ghost(key); e != want {
		t.Errorf("%s: Ghost(%.20q): %d, not %d", what, key, e, want)
	}
}

func purges(t *testing.T, what string, tree *Tree, key string, want api.Errno) {
	t.Helper()
	if e := tree.Purge(key); e != want {
		t.Errorf("%s: Purge(%.20q): %d, not %d", what, key, e, want)
	}
}

func gets(t *testing.T, what string, tree *Tree, key string, number int, ghost bool, want api.Errno) {
	t.Helper()
	if n, g, e := tree.Get(key); n != number || g != ghost || e != want {
		t.Errorf("%s: Get(%.20q): %d, %v, %d, not %d, %v, %d", what, key, n, g, e, number, ghost, want)
	}
}

func next(t *testing.T, what string, tree *Tree, key string, itself bool, want told) {
	t.Helper()
	if k, n, g, e := tree.Next(key, itself); (told{k, n, g}) != want || e != api.OK {
		t.Errorf("%s: Next(%.20q, %v): %.20q, %d, %v, %d, not %.20q, %d, %v", what, key, itself, k, n, g, e, want.key, want.number, want.ghost)
	}
}

func nextFails(t *testing.T, what string, tree *Tree, key string, itself bool) {
	t.Helper()
	if k, n, g, e := tree.Next(key, itself); (told{k, n, g}) != (told{}) || e != api.ErrTreeNone {
		t.Errorf("%s: Next(%.20q, %v): %.20q, %d, %v, %d, not nothing and ErrTreeNone", what, key, itself, k, n, g, e)
	}
}

func counts(t *testing.T, what string, tree *Tree, live, ghosts int) {
	t.Helper()
	if l, g := tree.Count(); l != live || g != ghosts {
		t.Errorf("%s: Count: %d, %d, not %d, %d", what, l, g, live, ghosts)
	}
}

// all goes from key to key by Next, and stops if that does not rise.
func all(t *testing.T, tree *Tree) []told {
	t.Helper()
	var passed []told
	k, n, g, e := tree.Next("", true)
	for ; e == api.OK; k, n, g, e = tree.Next(k, false) {
		if len(passed) > 0 && k <= passed[len(passed)-1].key {
			t.Fatalf("P9.3: Next goes from %.20q to %.20q", passed[len(passed)-1].key, k)
		}
		passed = append(passed, told{k, n, g})
	}
	if e != api.ErrTreeNone {
		t.Fatalf("P9.1: Next behind the last one: %d", e)
	}
	return passed
}

func holds(t *testing.T, what string, tree *Tree, want ...told) {
	t.Helper()
	have := all(t, tree)
	if len(have) != len(want) {
		t.Errorf("%s: there are %d entries, not %d", what, len(have), len(want))
	}
	for i := range min(len(have), len(want)) {
		if have[i] != want[i] {
			t.Errorf("%s: at %d there is %.20q, %d, %v, not %.20q, %d, %v", what, i,
				have[i].key, have[i].number, have[i].ghost, want[i].key, want[i].number, want[i].ghost)
			return
		}
	}
}

func TestExamples(t *testing.T) {
	tree := New()
	inserts(t, "P9.1", tree, "b", 1, api.OK)
	inserts(t, "P9.1", tree, "a", 2, api.OK)
	inserts(t, "P9.1", tree, "b", 3, api.ErrTreeTwice)
	ghosts(t, "P9.1", tree, "b", api.OK)
	next(t, "P9.1", tree, "a", false, told{"b", 1, true})
	inserts(t, "P9.1", tree, "b", 3, api.OK)
	purges(t, "P9.1", tree, "b", api.ErrTreeNone)
	holds(t, "P9.1", tree, told{"a", 2, false}, told{"b", 3, false})
}

func TestNew(t *testing.T) {
	tree := New()
	if tree == nil || !tree.Well() {
		t.Fatal("P9.2: a new tree is not well-formed")
	}
	counts(t, "P9.1: a new tree", tree, 0, 0)
	for _, key := range []string{"", "a", strings.Repeat("z", 2000)} {
		gets(t, "P9.1: a new tree", tree, key, 0, false, api.ErrTreeNone)
		ghosts(t, "P9.1: a new tree", tree, key, api.ErrTreeNone)
		purges(t, "P9.1: a new tree", tree, key, api.ErrTreeNone)
		nextFails(t, "P9.1: a new tree", tree, key, true)
		nextFails(t, "P9.1: a new tree", tree, key, false)
	}
	counts(t, "P9.1: a new tree, behind errors", tree, 0, 0)
	inserts(t, "P9.1", tree, "a", 1, api.OK)
	other := New()
	counts(t, "P2: another tree", other, 0, 0)
	nextFails(t, "P2: another tree", other, "", true)
	holds(t, "P9.1", tree, told{"a", 1, false})
}

func TestInsert(t *testing.T) {
	tree := treeOf(t, "m", "c", "x")
	counts(t, "P9.1: Insert", tree, 3, 0)
	inserts(t, "P9.1: a live key", tree, "c", 9, api.ErrTreeTwice)
	gets(t, "P9.1: Insert has failed", tree, "c", 2, false, api.OK)
	counts(t, "P9.1: Insert has failed", tree, 3, 0)
	ghosts(t, "P9.1", tree, "c", api.OK)
	inserts(t, "P9.1: a ghost", tree, "c", 9, api.OK)
	gets(t, "P9.1: a ghost comes back", tree, "c", 9, false, api.OK)
	counts(t, "P9.1: a ghost comes back", tree, 3, 0)
	inserts(t, "P9.1: live again", tree, "c", 10, api.ErrTreeTwice)
	gets(t, "P9.1: live again", tree, "c", 9, false, api.OK)
	ghosts(t, "P9.1", tree, "c", api.OK)
	purges(t, "P9.1", tree, "c", api.OK)
	inserts(t, "P9.1: a purged key", tree, "c", 11, api.OK)
	gets(t, "P9.1: a purged key", tree, "c", 11, false, api.OK)
	counts(t, "P9.1: a purged key", tree, 3, 0)
	holds(t, "P9.1", tree, told{"c", 11, false}, told{"m", 1, false}, told{"x", 3, false})
}

func TestGhost(t *testing.T) {
	tree := treeOf(t, "m", "c", "x")
	ghosts(t, "P9.1: a live key", tree, "m", api.OK)
	counts(t, "P9.1: Ghost", tree, 2, 1)
	ghosts(t, "P9.1: a ghost", tree, "m", api.ErrTreeNone)
	counts(t, "P9.1: Ghost has failed", tree, 2, 1)
	for _, none := range []string{"", "a", "l", "n", "m\x00", "z"} {
		ghosts(t, "P9.1: no entry", tree, none, api.ErrTreeNone)
	}
	counts(t, "P9.1: Ghost has failed", tree, 2, 1)
	holds(t, "P9.1: a ghost is an entry", tree, told{"c", 2, false}, told{"m", 1, true}, told{"x", 3, false})
	purges(t, "P9.1", tree, "m", api.OK)
	ghosts(t, "P9.1: a purged key", tree, "m", api.ErrTreeNone)
	counts(t, "P9.1: Ghost has failed", tree, 2, 0)
}

func TestPurge(t *testing.T) {
	tree := treeOf(t, "m", "c", "x")
	purges(t, "P9.1: a live key", tree, "m", api.ErrTreeNone)
	counts(t, "P9.1: Purge has failed", tree, 3, 0)
	gets(t, "P9.1: Purge has failed", tree, "m", 1, false, api.OK)
	ghosts(t, "P9.1", tree, "m", api.OK)
	for _, none := range []string{"", "a", "l", "n", "m\x00", "z"} {
		purges(t, "P9.1: no entry", tree, none, api.ErrTreeNone)
	}
	counts(t, "P9.1: Purge has failed", tree, 2, 1)
	purges(t, "P9.1: a ghost", tree, "m", api.OK)
	counts(t, "P9.1: Purge", tree, 2, 0)
	gets(t, "P9.1: it is gone", tree, "m", 0, false, api.ErrTreeNone)
	purges(t, "P9.1: it is gone", tree, "m", api.ErrTreeNone)
	counts(t, "P9.1: Purge has failed", tree, 2, 0)
	ghosts(t, "P9.1", tree, "c", api.OK)
	inserts(t, "P9.1", tree, "c", 7, api.OK)
	purges(t, "P9.1: a ghost that came back", tree, "c", api.ErrTreeNone)
	holds(t, "P9.1", tree, told{"c", 7, false}, told{"x", 3, false})
}

func TestGet(t *testing.T) {
	tree := treeOf(t, "m", "c", "x")
	ghosts(t, "P9.1", tree, "x", api.OK)
	gets(t, "P9.1: a live key", tree, "m", 1, false, api.OK)
	gets(t, "P9.1: a live key", tree, "c", 2, false, api.OK)
	gets(t, "P9.1: a ghost", tree, "x", 3, true, api.OK)
	for _, none := range []string{"", "b", "d", "m\x00", "l", "y", "C", strings.Repeat("c", 2001)} {
		gets(t, "P9.1: no entry", tree, none, 0, false, api.ErrTreeNone)
	}
	counts(t, "P9.1: behind Get", tree, 2, 1)
}

func TestNext(t *testing.T) {
	tree := treeOf(t, "m", "c", "x")
	c, m, x := told{"c", 2, false}, told{"m", 1, true}, told{"x", 3, false}
	ghosts(t, "P9.1", tree, "m", api.OK)
	for _, itself := range []bool{false, true} {
		next(t, "P9.1: below all", tree, "", itself, c)
		next(t, "P9.1: below all", tree, "a", itself, c)
		next(t, "P9.1: not there", tree, "d", itself, m)
		next(t, "P9.1: just above a key", tree, "m\x00", itself, x)
		next(t, "P9.1: the beginning of a key's next one", tree, "lzzz", itself, m)
		nextFails(t, "P9.1: above all", tree, "y", itself)
		nextFails(t, "P9.1: just above the last one", tree, "x\x00", itself)
	}
	next(t, "P9.1: there", tree, "c", true, c)
	next(t, "P9.1: there", tree, "c", false, m)
	next(t, "P9.1: a ghost", tree, "m", true, m)
	next(t, "P9.1: a ghost", tree, "m", false, x)
	next(t, "P9.1: the last one", tree, "x", true, x)
	nextFails(t, "P9.1: the last one", tree, "x", false)
	counts(t, "P9.1: behind Next", tree, 2, 1)
	purges(t, "P9.1", tree, "m", api.OK)
	next(t, "P9.1: purged", tree, "m", true, x)
	next(t, "P9.1: purged", tree, "c", false, x)
	ghosts(t, "P9.1", tree, "x", api.OK)
	ghosts(t, "P9.1", tree, "c", api.OK)
	next(t, "P9.1: ghosts alone", tree, "", false, told{"c", 2, true})
	purges(t, "P9.1", tree, "x", api.OK)
	nextFails(t, "P9.1: the last one is purged", tree, "c", false)
	purges(t, "P9.1", tree, "c", api.OK)
	nextFails(t, "P9.1: no entry is left", tree, "", true)
}

func TestLengthsOfKeys(t *testing.T) {
	tree := New()
	long := strings.Repeat("k", 2000)
	longer := []string{long + "k", long + "\x00", strings.Repeat("a", 2001), strings.Repeat("z", 70000), string(make([]byte, 2001))}
	inserts(t, "P9.1: 2000 bytes", tree, long, 5, api.OK)
	inserts(t, "P9.1: no bytes", tree, "", 6, api.OK)
	inserts(t, "P9.1: 2000 bytes, live", tree, long, 7, api.ErrTreeTwice)
	inserts(t, "P9.1: no bytes, live", tree, "", 7, api.ErrTreeTwice)
	for _, key := range longer {
		inserts(t, "P9.1: too long", tree, key, 1, api.ErrTreeKey)
		ghosts(t, "P9.1: too long to be there", tree, key, api.ErrTreeNone)
		purges(t, "P9.1: too long to be there", tree, key, api.ErrTreeNone)
		gets(t, "P9.1: too long to be there", tree, key, 0, false, api.ErrTreeNone)
	}
	for _, itself := range []bool{false, true} {
		nextFails(t, "P9.1: too long to be there, above all", tree, long+"k", itself)
		nextFails(t, "P9.1: too long to be there, above all", tree, long+"\x00", itself)
		next(t, "P9.1: too long to be there", tree, strings.Repeat("a", 2001), itself, told{long, 5, false})
		next(t, "P9.1: too long to be there", tree, string(make([]byte, 2001)), itself, told{long, 5, false})
	}
	holds(t, "P9.1", tree, told{"", 6, false}, told{long, 5, false})
	next(t, "P9.1: no bytes", tree, "", true, told{"", 6, false})
	next(t, "P9.1: no bytes", tree, "", false, told{long, 5, false})
	counts(t, "P9.1", tree, 2, 0)
	for _, key := range []string{"", long} {
		ghosts(t, "P9.1", tree, key, api.OK)
		gets(t, "P9.1", tree, key, 6-len(key)/2000, true, api.OK)
		purges(t, "P9.1", tree, key, api.OK)
		gets(t, "P9.1", tree, key, 0, false, api.ErrTreeNone)
	}
	counts(t, "P9.1", tree, 0, 0)
}

func TestNumbers(t *testing.T) {
	tree := New()
	numbers := map[string]int{"a": math.MinInt, "b": -1, "c": 0, "d": 1, "e": math.MaxInt, "f": -1 << 40}
	for key, n := range numbers {
		inserts(t, "P9.1", tree, key, n, api.OK)
		gets(t, "P9.1", tree, key, n, false, api.OK)
	}
	for key, n := range numbers {
		next(t, "P9.1", tree, key, true, told{key, n, false})
		ghosts(t, "P9.1", tree, key, api.OK)
		gets(t, "P9.1: a ghost has its number", tree, key, n, true, api.OK)
		inserts(t, "P9.1", tree, key, -n, api.OK)
		gets(t, "P9.1: a ghost comes back", tree, key, -n, false, api.OK)
	}
}

func TestKeysStandByTheirBytes(t *testing.T) {
	rising := []string{
		"", "\x00", "\x00\x00", "\x00\x01", "\x01", " ", "  ", "!", "0", "1", "10", "2", "9", "A", "AB", "B", "Z", "a",
		"a\x00", "a ", "a  ", "aa", "a\xff", "b", "z", "\x7f", "\x80", "\xc3\xa4", "\xc3\xb6", "\xe2\x82\xac",
		"\xef\xbf\xbd", "\xf0\x9f\x98\x80", "\xfe", "\xff", "\xff\x00", "\xff\xff",
	}
	for step := range len(rising) {
		// Each step that shares nothing with the length passes each key once.
		tree, want := New(), []told(nil)
		at := 0
		for range rising {
			at = (at + step) % len(rising)
			tree.Insert(rising[at], at)
		}
		for i, key := range rising {
			tree.Insert(key, i)
			want = append(want, told{key, i, false})
		}
		holds(t, "P9.3: by their bytes", tree, want...)
		for i, key := range rising {
			gets(t, "P9.1: by its bytes", tree, key, i, false, api.OK)
		}
	}
}

func TestErrorsChangeNothing(t *testing.T) {
	tree := New()
	var want []told
	for i := range 100 {
		key := keyOf(2*i + 1)
		inserts(t, "P9.1", tree, key, i, api.OK)
		if i%3 == 0 {
			ghosts(t, "P9.1", tree, key, api.OK)
		}
		want = append(want, told{key, i, i%3 == 0})
	}
	for i := range 100 {
		is, none := keyOf(2*i+1), keyOf(2*i)
		if i%3 == 0 {
			ghosts(t, "P9.1", tree, is, api.ErrTreeNone)
		} else {
			inserts(t, "P9.1", tree, is, -1, api.ErrTreeTwice)
			purges(t, "P9.1", tree, is, api.ErrTreeNone)
		}
		inserts(t, "P9.1", tree, is+strings.Repeat("x", 2000), -1, api.ErrTreeKey)
		ghosts(t, "P9.1", tree, none, api.ErrTreeNone)
		purges(t, "P9.1", tree, none, api.ErrTreeNone)
		gets(t, "P9.1", tree, none, 0, false, api.ErrTreeNone)
		nextFails(t, "P9.1", tree, keyOf(199), false)
		holds(t, "P9.1: an error", tree, want...)
		counts(t, "P9.1: an error", tree, 66, 34)
		formed(t, "P9.2: an error", tree)
	}
}

func TestNil(t *testing.T) {
	var tree *Tree
	for _, key := range []string{"", "a", strings.Repeat("k", 2000), strings.Repeat("k", 2001)} {
		inserts(t, "P9.1: nil", tree, key, 1, api.ErrTreeNone)
		ghosts(t, "P9.1: nil", tree, key, api.ErrTreeNone)
		purges(t, "P9.1: nil", tree, key, api.ErrTreeNone)
		gets(t, "P9.1: nil", tree, key, 0, false, api.ErrTreeNone)
		nextFails(t, "P9.1: nil", tree, key, false)
		nextFails(t, "P9.1: nil", tree, key, true)
	}
	counts(t, "P9.1: nil", tree, 0, 0)
	if tree.Well() {
		t.Error("P9.2: nil: Well")
	}
}
