package eval

import "stile/api"

// deepest is how many expressions may be asked within one another: twice what DOC.md's bound lets stand in one another. A tree that has more stands in itself.
const deepest = 1 << 17

// patience is how many expressions are asked ahead of any being remembered. A statement has fewer, so that a tree that has more has some of them at several places.
const patience = 1 << 12

// asking is one call's way through a tree.
type asking struct {
	rows  []api.Row
	run   Run
	depth int
	steps int
	known map[place]outcome
}

// place is a tree with parts, by all that counts of it. The parts are told by where they lie, for a tree may have one list of them at very many places: in `case` with an expression each condition has that expression's.
type place struct {
	op, s string
	first *api.Node
	count int
}

// outcome is what a tree came to, once that is known.
type outcome struct {
	value api.Value
	known bool
}

func newAsking(rows []api.Row, run Run) *asking {
	return &asking{rows: rows, run: run, known: map[place]outcome{}}
}

// value is what an expression comes to.
func (a *asking) value(n api.Node) api.Value {
	need(fits(n), api.Syntax)
	a.steps++
	if a.steps <= patience || len(n.L) == 0 {
		return a.within(n)
	}
	here := place{n.Op, n.S, &n.L[0], len(n.L)}
	if ahead, is := a.known[here]; is {
		// What is still being asked stands in itself.
		need(ahead.known, api.Syntax)
		return ahead.value
	}
	a.known[here] = outcome{}
	v := a.within(n)
	a.known[here] = outcome{v, true}
	return v
}

func (a *asking) within(n api.Node) api.Value {
	a.depth++
	need(a.depth <= deepest, api.Syntax)
	v := a.operation(n)
	a.depth--
	return v
}
