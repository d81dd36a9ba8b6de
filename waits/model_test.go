package waits

import (
	"math/rand"
	"slices"
	"testing"
)

// leadsTo tells whether some way of one edge or more leads from one number to another.
func leadsTo(e edges, from, to int) bool {
	seen := map[int]bool{}
	var walk func(x int) bool
	walk = func(x int) bool {
		for _, p := range e {
			if p[0] != x || seen[p[1]] {
				continue
			}
			seen[p[1]] = true
			if p[1] == to || walk(p[1]) {
				return true
			}
		}
		return false
	}
	return walk(from)
}

// numbersOf holds all numbers of the edges, rising.
func numbersOf(e edges) []int {
	var out []int
	for _, p := range e {
		out = append(out, p[0], p[1])
	}
	slices.Sort(out)
	return slices.Compact(out)
}

// inCycles holds the numbers that are in some cycle, rising.
func inCycles(e edges) []int {
	return slices.DeleteFunc(numbersOf(e), func(x int) bool { return !leadsTo(e, x, x) })
}

func without(e edges, x int) edges {
	return slices.DeleteFunc(slices.Clone(e), func(p [2]int) bool { return p[0] == x || p[1] == x })
}

// modelCycle goes all ways from the least number that pass none twice. Of those that come back the shortest is it, and of several the first one, as lists are ordered: at each place that has the least next one.
func modelCycle(e edges) []int {
	in := inCycles(e)
	if len(in) == 0 {
		return nil
	}
	best := []int{}
	var walk func(way []int)
	walk = func(way []int) {
		for _, p := range e {
			switch last := way[len(way)-1]; {
			case p[0] != last:
			case p[1] == in[0]:
				if len(best) == 0 || len(way) < len(best) || len(way) == len(best) && slices.Compare(way, best) < 0 {
					best = slices.Clone(way)
				}
			case !slices.Contains(way, p[1]):
				walk(append(slices.Clone(way), p[1]))
			}
		}
	}
	walk(in[:1])
	return best
}

func modelVictims(e edges) []int {
	var out []int
	for {
		cycle := modelCycle(e)
		if len(cycle) == 0 {
			return out
		}
		out = append(out, slices.Max(cycle))
		e = without(e, slices.Max(cycle))
	}
}

// ended asks what P12.2 says of the victims, by what leads to what alone.
func ended(t *testing.T, e edges) {
	t.Helper()
	victims := Victims(e)
	if len(inCycles(e)) == 0 && len(victims) > 0 {
		t.Fatalf("P12.2: there is no cycle in %v, but the victims are %v", e, victims)
	}
	left := e
	for _, v := range victims {
		if !leadsTo(left, v, v) {
			t.Fatalf("P12.2: the victim %d of %v of %v is in no cycle of %v", v, victims, e, left)
		}
		left = without(left, v)
	}
	if in := inCycles(left); len(in) > 0 {
		t.Fatalf("P12.2: behind the victims %v of %v there are cycles of %v", victims, e, in)
	}
}

// asModel asks that both calls answer what the model does.
func asModel(t *testing.T, e edges) {
	t.Helper()
	if is, want := Cycle(e), modelCycle(e); !slices.Equal(is, want) {
		t.Fatalf("P12.1: Cycle(%v): %v, not %v", e, is, want)
	}
	if is, want := Victims(e), modelVictims(e); !slices.Equal(is, want) {
		t.Fatalf("P12.1: Victims(%v): %v, not %v", e, is, want)
	}
	ended(t, e)
}

// All edges among some numbers, in all choices.
func TestAllSmallGraphs(t *testing.T) {
	for _, numbers := range [][]int{{5}, {0, 7}, {-3, 0, 2}, {4, 1, 3, 2}} {
		var all edges
		for _, a := range numbers {
			for _, b := range numbers {
				all = append(all, [2]int{a, b})
			}
		}
		for choice := range 1 << len(all) {
			var e edges
			for i, p := range all {
				if choice>>i&1 > 0 {
					e = append(e, p)
				}
			}
			asModel(t, e)
		}
	}
}

// someEdges holds so many of them among the numbers 0 to n - 1, or numbers far from one another.
func someEdges(r *rand.Rand, n, count int) edges {
	spread := 1
	if r.Intn(2) > 0 {
		spread = -1000003
	}
	var e edges
	for range count {
		e = append(e, [2]int{r.Intn(n) * spread, r.Intn(n) * spread})
	}
	return e
}

func TestAgainstTheModel(t *testing.T) {
	r := rand.New(rand.NewSource(12))
	for range 4000 {
		n := 2 + r.Intn(9)
		asModel(t, someEdges(r, n, r.Intn(2*n)))
	}
	for range 400 {
		asModel(t, someEdges(r, 6, 15+r.Intn(15)))
	}
}

// What is too great for the model: of the cycle it is asked that it is one, through the least number, and of the victims what P12.2 says.
func TestGreaterGraphs(t *testing.T) {
	r := rand.New(rand.NewSource(21))
	for range 60 {
		n := 20 + r.Intn(60)
		e := someEdges(r, n, n+r.Intn(n))
		ended(t, e)
		cycle, in := Cycle(e), inCycles(e)
		if len(in) == 0 && len(cycle) == 0 {
			continue
		}
		if len(cycle) == 0 || cycle[0] != in[0] || len(numbersOf(pairsOf(cycle))) != len(cycle) {
			t.Fatalf("P12.1: Cycle(%v): %v; in cycles are %v", e, cycle, in)
		}
		for _, p := range pairsOf(cycle) {
			if !slices.Contains(e, p) {
				t.Fatalf("P12.1: Cycle(%v): %v, without the edge %v", e, cycle, p)
			}
		}
	}
}

// pairsOf holds the edges of a cycle.
func pairsOf(cycle []int) edges {
	var e edges
	for i, x := range cycle {
		e = append(e, [2]int{x, cycle[(i+1)%len(cycle)]})
	}
	return e
}

func FuzzAgainstTheModel(f *testing.F) {
	f.Add([]byte("\x12\x23\x31\x21"))
	f.Add([]byte("\x14\x13\x42\x32\x21"))
	f.Add([]byte("\x59\x95\x23\x32\x12\x77"))
	f.Fuzz(func(t *testing.T, pairs []byte) {
		var e edges
		// More of them have too many ways for the model.
		for _, p := range pairs[:min(len(pairs), 16)] {
			e = append(e, [2]int{int(p >> 4), int(p & 15)})
		}
		asModel(t, e)
	})
}
