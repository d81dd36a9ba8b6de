package waits

import (
	"math"
	"math/rand"
	"slices"
	"testing"
)

type edges = [][2]int

// tells asks a call for the same several times: what it answers may not hang on the order in which a map is gone through. The edges stay as they were.
func tells(t *testing.T, name string, call func([][2]int) []int, e edges, want []int) {
	t.Helper()
	kept := slices.Clone(e)
	for range 4 {
		is := call(e)
		if !slices.Equal(e, kept) {
			t.Fatalf("P12.1: %s made %v of the edges %v", name, e, kept)
		}
		if !slices.Equal(is, want) {
			t.Fatalf("P12.1: %s(%v): %v, not %v", name, e, is, want)
		}
	}
}

func cycleIs(t *testing.T, e edges, want ...int) {
	t.Helper()
	tells(t, "Cycle", Cycle, e, want)
}

func victimsAre(t *testing.T, e edges, want ...int) {
	t.Helper()
	tells(t, "Victims", Victims, e, want)
	ended(t, e)
}

func TestNoEdges(t *testing.T) {
	for _, e := range []edges{nil, {}, make(edges, 0, 5)} {
		cycleIs(t, e)
		victimsAre(t, e)
	}
}

func TestNoCycle(t *testing.T) {
	for _, e := range []edges{
		{{1, 2}},
		{{2, 1}},
		{{1, 2}, {2, 3}},
		{{3, 2}, {2, 1}},
		{{1, 2}, {1, 2}},
		{{1, 2}, {3, 2}, {4, 2}},
		{{2, 1}, {2, 3}, {2, 4}},
		{{1, 2}, {1, 3}, {2, 4}, {3, 4}, {1, 4}},
		{{4, 3}, {4, 2}, {3, 1}, {2, 1}, {4, 1}},
		{{1, 2}, {3, 4}, {5, 6}},
		{{0, -1}, {-1, -2}},
	} {
		cycleIs(t, e)
		victimsAre(t, e)
	}
}

func TestWhoWaitsForItself(t *testing.T) {
	cycleIs(t, edges{{1, 1}}, 1)
	victimsAre(t, edges{{1, 1}}, 1)
	for _, c := range []struct {
		e       edges
		cycle   []int
		victims []int
	}{
		{edges{{0, 0}}, []int{0}, []int{0}},
		{edges{{2, 2}, {1, 1}}, []int{1}, []int{1, 2}},
		{edges{{1, 2}, {2, 2}}, []int{2}, []int{2}},
		{edges{{2, 1}, {2, 2}}, []int{2}, []int{2}},
		// By itself is shorter than by another one.
		{edges{{1, 2}, {2, 1}, {1, 1}}, []int{1}, []int{1}},
		// The least one is in the longer cycle alone.
		{edges{{1, 2}, {2, 1}, {2, 2}}, []int{1, 2}, []int{2}},
		{edges{{1, 2}, {2, 3}, {3, 1}, {2, 2}, {3, 3}}, []int{1, 2, 3}, []int{3, 2}},
		{edges{{1, 1}, {1, 2}, {2, 1}, {2, 2}}, []int{1}, []int{1, 2}},
	} {
		cycleIs(t, c.e, c.cycle...)
		victimsAre(t, c.e, c.victims...)
	}
}

func TestExamples(t *testing.T) {
	e := edges{{1, 2}, {2, 3}, {3, 1}, {2, 1}}
	cycleIs(t, e, 1, 2)
	victimsAre(t, e, 2)
	cycleIs(t, edges{{1, 1}}, 1)
	cycleIs(t, edges{{1, 2}, {2, 3}})
}

func TestLeastInSomeCycle(t *testing.T) {
	for _, c := range []struct {
		e    edges
		want []int
	}{
		// Lesser ones lead into the cycle, by one edge and by more.
		{edges{{1, 5}, {5, 6}, {6, 5}}, []int{5, 6}},
		{edges{{1, 2}, {2, 6}, {5, 6}, {6, 5}}, []int{5, 6}},
		{edges{{2, 1}, {1, 6}, {5, 6}, {6, 5}}, []int{5, 6}},
		// Lesser ones are led to out of it.
		{edges{{5, 1}, {5, 6}, {6, 5}}, []int{5, 6}},
		{edges{{6, 1}, {1, 2}, {5, 6}, {6, 5}}, []int{5, 6}},
		{edges{{6, 2}, {2, 1}, {5, 6}, {6, 5}}, []int{5, 6}},
		// Both; and they lie between two cycles.
		{edges{{1, 5}, {6, 2}, {5, 6}, {6, 5}}, []int{5, 6}},
		{edges{{8, 9}, {9, 8}, {9, 1}, {1, 2}, {2, 5}, {5, 6}, {6, 5}}, []int{5, 6}},
		{edges{{5, 6}, {6, 5}, {6, 2}, {2, 1}, {1, 8}, {8, 9}, {9, 8}}, []int{5, 6}},
		{edges{{5, 6}, {6, 5}, {6, 2}, {5, 1}, {1, 2}, {1, 8}, {2, 8}, {8, 8}}, []int{5, 6}},
		// They are apart from it.
		{edges{{1, 2}, {3, 2}, {5, 6}, {6, 5}}, []int{5, 6}},
		// The least one is in a longer cycle than others.
		{edges{{1, 2}, {2, 3}, {3, 4}, {4, 1}, {5, 6}, {6, 5}, {7, 7}}, []int{1, 2, 3, 4}},
		// It stands neither first nor last, and not at an edge's beginning first.
		{edges{{9, 7}, {7, 3}, {3, 8}, {8, 9}}, []int{3, 8, 9, 7}},
	} {
		cycleIs(t, c.e, c.want...)
	}
}

func TestShortestThroughIt(t *testing.T) {
	for _, c := range []struct {
		e    edges
		want []int
	}{
		// The least next one is on a longer way back, or on none.
		{edges{{1, 2}, {2, 3}, {3, 1}, {1, 4}, {4, 1}}, []int{1, 4}},
		{edges{{1, 2}, {1, 4}, {4, 1}}, []int{1, 4}},
		{edges{{1, 2}, {2, 3}, {3, 2}, {1, 9}, {9, 8}, {8, 1}}, []int{1, 9, 8}},
		// Several are as short: the least next one, at each place.
		{edges{{1, 4}, {1, 3}, {4, 2}, {3, 2}, {2, 1}}, []int{1, 3, 2}},
		{edges{{1, 3}, {1, 4}, {3, 9}, {4, 2}, {9, 1}, {2, 1}}, []int{1, 3, 9}},
		{edges{{1, 2}, {2, 9}, {2, 8}, {9, 3}, {8, 4}, {3, 1}, {4, 1}}, []int{1, 2, 8, 4}},
		{edges{{1, 2}, {2, 5}, {5, 9}, {5, 7}, {5, 8}, {9, 1}, {7, 1}, {8, 1}}, []int{1, 2, 5, 7}},
		// The least next one behind the first leads only to a longer way.
		{edges{{1, 5}, {5, 2}, {2, 3}, {3, 1}, {5, 6}, {6, 1}}, []int{1, 5, 6}},
		// The way back could pass through a cycle of others.
		{edges{{1, 5}, {5, 4}, {4, 5}, {5, 6}, {6, 1}}, []int{1, 5, 6}},
		{edges{{1, 3}, {3, 3}, {3, 1}, {1, 2}, {2, 2}}, []int{1, 3}},
		// A shorter cycle that the least one is not in, of the same numbers.
		{edges{{1, 2}, {2, 3}, {3, 4}, {4, 1}, {3, 2}, {4, 3}}, []int{1, 2, 3, 4}},
	} {
		cycleIs(t, c.e, c.want...)
	}
}

func TestVictimsOneBehindAnother(t *testing.T) {
	for _, c := range []struct {
		e    edges
		want []int
	}{
		// Cycles that do not meet: in the order of their least ones, not of the victims.
		{edges{{5, 9}, {9, 5}, {2, 3}, {3, 2}, {1, 2}}, []int{3, 9}},
		{edges{{1, 9}, {9, 1}, {2, 3}, {3, 2}}, []int{9, 3}},
		{edges{{7, 8}, {8, 7}, {4, 5}, {5, 6}, {6, 4}, {1, 2}, {2, 1}, {3, 3}}, []int{2, 3, 6, 8}},
		// Cycles that meet in the greatest one end by one victim, in others by several.
		{edges{{1, 9}, {9, 1}, {2, 9}, {9, 2}, {3, 9}, {9, 3}}, []int{9}},
		{edges{{1, 2}, {2, 1}, {1, 3}, {3, 1}, {1, 4}, {4, 1}}, []int{2, 3, 4}},
		{edges{{5, 1}, {1, 5}, {5, 9}, {9, 5}, {5, 7}, {7, 5}}, []int{5}},
		{edges{{1, 4}, {1, 3}, {4, 2}, {3, 2}, {2, 1}}, []int{3, 4}},
		// The shortest cycle goes first; a longer one through the least is then still there, or not.
		{edges{{1, 2}, {2, 1}, {1, 3}, {3, 4}, {4, 1}}, []int{2, 4}},
		{edges{{1, 2}, {2, 1}, {1, 3}, {3, 2}}, []int{2}},
		// The least one is in no cycle any more, but others still are in one.
		{edges{{1, 3}, {3, 1}, {2, 4}, {4, 2}, {3, 4}}, []int{3, 4}},
		{edges{{1, 5}, {5, 1}, {2, 4}, {4, 2}, {1, 2}}, []int{5, 4}},
		// All three of each other.
		{edges{{1, 2}, {2, 1}, {2, 3}, {3, 2}, {1, 3}, {3, 1}}, []int{2, 3}},
		{edges{{2, 1}, {3, 1}, {3, 2}, {1, 3}}, []int{3}},
	} {
		victimsAre(t, c.e, c.want...)
	}
}

// The edges that lead to a victim are gone as well as those that lead from it.
func TestEdgesOfVictimsAreGone(t *testing.T) {
	from := edges{{1, 3}, {3, 1}, {3, 2}, {2, 4}, {4, 3}}
	cycleIs(t, from, 1, 3)
	victimsAre(t, from, 3)
	to := edges{{1, 3}, {3, 1}, {2, 3}, {4, 2}, {3, 4}, {2, 4}}
	cycleIs(t, to, 1, 3)
	victimsAre(t, to, 3, 4)
	self := edges{{1, 3}, {3, 1}, {3, 3}}
	cycleIs(t, self, 1, 3)
	victimsAre(t, self, 3)
}

func TestNumbersOfAllKinds(t *testing.T) {
	least, greatest := math.MinInt, math.MaxInt
	for _, c := range []struct {
		e       edges
		cycle   []int
		victims []int
	}{
		{edges{{-1, 0}, {0, -1}}, []int{-1, 0}, []int{0}},
		{edges{{0, 1}, {1, 0}}, []int{0, 1}, []int{1}},
		{edges{{-1, -2}, {-2, -1}, {1, 2}, {2, 1}}, []int{-2, -1}, []int{-1, 2}},
		{edges{{-3, -3}}, []int{-3}, []int{-3}},
		{edges{{least, greatest}, {greatest, least}}, []int{least, greatest}, []int{greatest}},
		{edges{{greatest, greatest}, {least, least}, {0, 0}}, []int{least}, []int{least, 0, greatest}},
		{edges{{greatest, 0}, {0, least}, {least, greatest}}, []int{least, greatest, 0}, []int{greatest}},
		{edges{{greatest, greatest - 1}, {greatest - 1, greatest}}, []int{greatest - 1, greatest}, []int{greatest}},
		{edges{{least, least + 1}, {least + 1, least}}, []int{least, least + 1}, []int{least + 1}},
		{edges{{least, 0}, {0, greatest}}, nil, nil},
		{edges{{1 << 40, 1<<40 + 1}, {1<<40 + 1, 1 << 40}, {0, 1}}, []int{1 << 40, 1<<40 + 1}, []int{1<<40 + 1}},
	} {
		cycleIs(t, c.e, c.cycle...)
		victimsAre(t, c.e, c.victims...)
	}
}

func TestTwiceAndInAnotherOrder(t *testing.T) {
	r := rand.New(rand.NewSource(3))
	for _, e := range []edges{
		{{1, 2}, {2, 3}, {3, 1}, {2, 1}},
		{{1, 4}, {1, 3}, {4, 2}, {3, 2}, {2, 1}},
		{{5, 9}, {9, 5}, {2, 3}, {3, 2}, {1, 2}, {7, 7}},
		{{1, 2}, {2, 3}, {1, 3}},
	} {
		cycle, victims := Cycle(e), Victims(e)
		for range 60 {
			other := slices.Concat(e, e[:r.Intn(len(e)+1)], e[r.Intn(len(e)+1):])
			r.Shuffle(len(other), func(i, j int) { other[i], other[j] = other[j], other[i] })
			cycleIs(t, other, cycle...)
			victimsAre(t, other, victims...)
		}
	}
}

// What is handed in stays as it was, and what lies behind its length counts for nothing.
func TestWhatIsHandedIn(t *testing.T) {
	whole := edges{{4, 3}, {3, 2}, {2, 4}, {4, 4}, {3, 1}, {1, 3}, {2, 2}}
	kept := slices.Clone(whole)
	part := whole[:3]
	cycleIs(t, part, 2, 4, 3)
	victimsAre(t, part, 4)
	cycleIs(t, whole, 1, 3)
	victimsAre(t, whole, 3, 2, 4)
	if !slices.Equal(whole, kept) {
		t.Errorf("P12.1: the edges are %v behind the calls, not %v", whole, kept)
	}
	// And nothing of it is kept.
	whole[4] = [2]int{3, 9}
	cycleIs(t, whole, 2)
	victimsAre(t, whole, 2, 4)
}

func TestWhatIsHandedOut(t *testing.T) {
	e := edges{{1, 2}, {2, 3}, {3, 1}, {4, 5}, {5, 4}}
	kept := slices.Clone(e)
	for _, call := range []func([][2]int) []int{Cycle, Victims} {
		is, other := call(e), call(e)
		want := slices.Clone(is)
		is = is[:cap(is)]
		for i := range is {
			is[i] = -7
		}
		if again := call(e); !slices.Equal(other, want) || !slices.Equal(again, want) || !slices.Equal(e, kept) {
			t.Errorf("P12.1: %v and %v, not %v, once what was told was written into; the edges are %v", other, again, want, e)
		}
	}
}
