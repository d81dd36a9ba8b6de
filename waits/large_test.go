package waits

import (
	"math/rand"
	"slices"
	"testing"
)

// path holds the edges from one number to the next one, rising or falling.
func path(from, to int) edges {
	step := 1
	if to < from {
		step = -1
	}
	var e edges
	for x := from; x != to; x += step {
		e = append(e, [2]int{x, x + step})
	}
	return e
}

// numbers holds those from one to another, by a step.
func numbers(from, to, step int) []int {
	var out []int
	for x := from; x <= to; x += step {
		out = append(out, x)
	}
	return out
}

// noCycle holds three edges from each number, all to such as stand a little ahead of it in some order.
func noCycle(n int) edges {
	r := rand.New(rand.NewSource(4))
	order := r.Perm(n)
	var e edges
	for i := 1; i < n; i++ {
		for range 3 {
			e = append(e, [2]int{order[i], order[max(0, i-1-r.Intn(50))]})
		}
	}
	return e
}

// P1: calls on many edges end too, however long the ways and however many there are.
func TestManyEdges(t *testing.T) {
	const n = 40000
	falling := numbers(1, n, 1)
	slices.Reverse(falling)
	bothWays := slices.Concat(path(0, n), path(n, 0))
	var pairs, layers edges
	for x := 0; x < n; x += 2 {
		pairs = append(pairs, [2]int{x, x + 1}, [2]int{x + 1, x})
		// From each of two to each of the next two: the shortest ways are too many to be gone one by one.
		layers = append(layers, [2]int{x + 1, x + 3}, [2]int{x + 1, x + 4}, [2]int{x + 2, x + 3}, [2]int{x + 2, x + 4})
	}
	layers = append(layers, [2]int{0, 1}, [2]int{0, 2}, [2]int{n + 1, 0}, [2]int{n + 2, 0})
	twoRings := edges{{n + 1, n + 2}, {n + 2, n + 1}, {n + 3, n + 4}, {n + 4, n + 3}}
	for _, c := range []struct {
		name    string
		e       edges
		cycle   []int
		victims []int
	}{
		{"a path that rises", path(0, n), nil, nil},
		{"a path that falls", path(n, 0), nil, nil},
		{"no cycle", noCycle(n), nil, nil},
		{"a ring that rises", append(path(0, n), [2]int{n, 0}), numbers(0, n, 1), []int{n}},
		{"a ring that falls", append(path(n, 0), [2]int{0, n}), append([]int{0}, falling...), []int{n}},
		{"a path between two rings", slices.Concat(twoRings, path(n, 0), edges{{n + 2, n}, {0, n + 3}}), []int{n + 1, n + 2}, []int{n + 2, n + 4}},
		{"two rings behind a path", slices.Concat(twoRings, path(0, n+1), edges{{n + 1, n + 3}}), []int{n + 1, n + 2}, []int{n + 2, n + 4}},
		{"a path of pairs", bothWays, []int{0, 1}, numbers(1, n, 2)},
		{"pairs", pairs, []int{0, 1}, numbers(1, n, 2)},
		{"layers", layers, append([]int{0}, numbers(1, n+1, 2)...), []int{n + 1, n + 2}},
	} {
		if is := Cycle(c.e); !slices.Equal(is, c.cycle) {
			t.Errorf("P12.1: %s: Cycle has %d members, not %d, or others", c.name, len(is), len(c.cycle))
		}
		if is := Victims(c.e); !slices.Equal(is, c.victims) {
			t.Errorf("P12.1: %s: there are %d victims, not %d, or others", c.name, len(is), len(c.victims))
		}
	}
}

// Each waits for each other one.
func TestAllOfEachOther(t *testing.T) {
	const n = 60
	var e edges
	for a := range n {
		for b := range n {
			if a != b {
				e = append(e, [2]int{a, b})
			}
		}
	}
	cycleIs(t, e, 0, 1)
	victimsAre(t, e, numbers(1, n-1, 1)...)
}
