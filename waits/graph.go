package waits

import (
	"maps"
	"slices"
)

// links are from each number to some others, each told once.
type links map[int]map[int]struct{}

func (l links) add(from, to int) {
	if l[from] == nil {
		l[from] = map[int]struct{}{}
	}
	l[from][to] = struct{}{}
}

// graph is the edges that are left: those a number waits for are ahead of it, those that wait for it behind it. What is less than the first of rest is in no cycle.
type graph struct {
	ahead, behind links
	rest          []int
}

func newGraph(edges [][2]int) *graph {
	g := &graph{ahead: links{}, behind: links{}}
	for _, e := range edges {
		g.ahead.add(e[0], e[1])
		g.behind.add(e[1], e[0])
		g.rest = append(g.rest, e[0], e[1])
	}
	slices.Sort(g.rest)
	g.rest = slices.Compact(g.rest)
	for _, x := range g.rest {
		if g.isEnd(x) {
			g.drop(x)
		}
	}
	return g
}

// isEnd tells whether a number waits for none, or none for it: it is in no cycle then.
func (g *graph) isEnd(x int) bool {
	return len(g.ahead[x]) == 0 || len(g.behind[x]) == 0
}

// drop takes a number's edges away, and those of all that are ends by that: no cycle goes through these, and what is looked for later need not pass them again and again.
func (g *graph) drop(first int) {
	gone := []int{first}
	alsoIfEnd := func(x int) {
		if g.isEnd(x) {
			gone = append(gone, x)
		}
	}
	for len(gone) > 0 {
		x := gone[len(gone)-1]
		gone = gone[:len(gone)-1]
		for y := range g.ahead[x] {
			delete(g.behind[y], x)
			alsoIfEnd(y)
		}
		for y := range g.behind[x] {
			delete(g.ahead[y], x)
			alsoIfEnd(y)
		}
		delete(g.ahead, x)
		delete(g.behind, x)
	}
}

// firstCycle is the first cycle of the edges that are left, or nothing. A number that is in none is not asked again: as edges only go, it never will be.
func (g *graph) firstCycle() []int {
	for ; len(g.rest) > 0; g.rest = g.rest[1:] {
		least := g.rest[0]
		if cycle := g.cycleThrough(least); len(cycle) > 0 {
			return cycle
		}
		g.drop(least)
	}
	return nil
}

// cycleThrough is the shortest cycle through a number, from it on, by the least next one where there are several; or nothing.
func (g *graph) cycleThrough(a int) []int {
	steps := g.stepsBack(a)
	if steps[a] == 0 {
		return nil
	}
	cycle := []int{a}
way:
	for left := steps[a] - 1; left > 0; left-- {
		last := cycle[len(cycle)-1]
		for _, next := range slices.Sorted(maps.Keys(g.ahead[last])) {
			if steps[next] == left {
				cycle = append(cycle, next)
				continue way
			}
		}
	}
	return cycle
}

// stepsBack are how many edges lead at least from each number to a, up to the length of the shortest cycle through a, which stands as a's own. If there is none, a has no number of steps.
func (g *graph) stepsBack(a int) map[int]int {
	steps := map[int]int{}
	reached := []int{a}
	reach := func(x, count int) {
		if _, known := steps[x]; !known {
			steps[x] = count
			reached = append(reached, x)
		}
	}
search:
	for at := 0; at < len(reached); at++ {
		to := reached[at]
		for from := range g.behind[to] {
			// a has no steps till it is reached again, so that the count begins at 0.
			reach(from, steps[to]+1)
			if from == a {
				break search
			}
		}
	}
	return steps
}
