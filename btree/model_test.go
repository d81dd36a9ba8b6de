package btree

import (
	"math/rand"
	"slices"
	"strings"
	"testing"

	"stile/api"
)

// model is a tree that is written as the chapter reads: entries in a list, in no order.
type model []told

func (m *model) at(key string) int {
	return slices.IndexFunc(*m, func(e told) bool { return e.key == key })
}

func (m *model) insert(key string, n int) api.Errno {
	at := m.at(key)
	switch {
	case len(key) > 2000:
		return api.ErrTreeKey
	case at < 0:
		*m = append(*m, told{key, n, false})
	case !(*m)[at].ghost:
		return api.ErrTreeTwice
	default:
		(*m)[at] = told{key, n, false}
	}
	return api.OK
}

func (m *model) ghost(key string) api.Errno {
	at := m.at(key)
	if at < 0 || (*m)[at].ghost {
		return api.ErrTreeNone
	}
	(*m)[at].ghost = true
	return api.OK
}

func (m *model) purge(key string) api.Errno {
	at := m.at(key)
	if at < 0 || !(*m)[at].ghost {
		return api.ErrTreeNone
	}
	*m = slices.Delete(*m, at, at+1)
	return api.OK
}

func (m *model) get(key string) (int, bool, api.Errno) {
	at := m.at(key)
	if at < 0 {
		return 0, false, api.ErrTreeNone
	}
	return (*m)[at].number, (*m)[at].ghost, api.OK
}

func (m *model) next(key string, itself bool) (told, api.Errno) {
	least, errno := told{}, api.ErrTreeNone
	for _, e := range *m {
		if (e.key > key || itself && e.key == key) && (errno != api.OK || e.key < least.key) {
			least, errno = e, api.OK
		}
	}
	return least, errno
}

func (m *model) count() (live, ghosts int) {
	for _, e := range *m {
		if e.ghost {
			ghosts++
		} else {
			live++
		}
	}
	return live, ghosts
}

func (m *model) rising() []told {
	return slices.SortedFunc(slices.Values(*m), func(a, b told) int { return strings.Compare(a.key, b.key) })
}

// step does the same with a tree and its model, and asks for the same answers.
func step(t *testing.T, tree *Tree, m *model, call int, key string, n int) {
	t.Helper()
	switch call % 6 {
	case 0, 1:
		inserts(t, "P9.1", tree, key, n, m.insert(key, n))
	case 2:
		ghosts(t, "P9.1", tree, key, m.ghost(key))
	case 3:
		purges(t, "P9.1", tree, key, m.purge(key))
	case 4:
		number, ghost, errno := m.get(key)
		gets(t, "P9.1", tree, key, number, ghost, errno)
	case 5:
		want, errno := m.next(key, n%2 == 0)
		if errno == api.OK {
			next(t, "P9.1", tree, key, n%2 == 0, want)
		} else {
			nextFails(t, "P9.1", tree, key, n%2 == 0)
		}
	}
	live, ghosts := m.count()
	counts(t, "P9.1", tree, live, ghosts)
	formed(t, "P9.2", tree)
}

func TestAgainstTheModel(t *testing.T) {
	for seed := range 14 {
		r := rand.New(rand.NewSource(int64(seed)))
		keys := 5 << (seed % 7)
		tree, m := New(), &model{}
		for i := range 3000 {
			// Now there is more filling, now more emptying.
			call := r.Intn(6)
			if i/500%2 > 0 {
				call = 2 + r.Intn(4)
			}
			key := keyOf(r.Intn(keys))[8-1-r.Intn(8):]
			step(t, tree, m, call, key, r.Int()-r.Int())
			if i%50 == 0 {
				holds(t, "P9.3", tree, m.rising()...)
			}
		}
		holds(t, "P9.3", tree, m.rising()...)
	}
}

// What one call answers hangs on the tree's own calls alone.
func TestTreesBesideOneAnother(t *testing.T) {
	var trees [3]*Tree
	var models [3]*model
	for i := range trees {
		trees[i], models[i] = New(), &model{}
	}
	r := rand.New(rand.NewSource(3))
	for range 6000 {
		i := r.Intn(3)
		step(t, trees[i], models[i], r.Intn(6), keyOf(r.Intn(80)), r.Int())
	}
	for i := range trees {
		holds(t, "P2", trees[i], models[i].rising()...)
	}
}

func FuzzAgainstTheModel(f *testing.F) {
	f.Add([]byte("\x00\x01a\x00\x01b\x02\x01a\x05\x00\x03\x01a"))
	f.Add([]byte("\x00\xff\x04\xff\x02\xff\x05\xfe"))
	var many []byte
	for call := range byte(4) {
		for k := range byte(60) {
			many = append(many, call, 1, k*7%60)
		}
	}
	f.Add(many)
	f.Fuzz(func(t *testing.T, script []byte) {
		tree, m := New(), &model{}
		for len(script) > 1 {
			call, long := int(script[0]), int(script[1])
			script = script[2:]
			// From 250 on a key is about as long as it may be.
			key := strings.Repeat("k", 1747+long)
			if long < 250 {
				long = min(long%4, len(script))
				key, script = string(script[:long]), script[long:]
			}
			step(t, tree, m, call, key, call-128)
		}
		holds(t, "P9.3", tree, m.rising()...)
	})
}
