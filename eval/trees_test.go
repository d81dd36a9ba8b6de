package eval

import (
	"testing"

	"stile/api"
)

// form is how many parts a kind of tree must have, and one that it may have.
type form struct {
	op, s       string
	least, most int
	part        api.Node
}

func forms() []form {
	const many = 9
	number, word, yes, query := leaf(num(1)), leaf(text("a")), leaf(boolean(true)), named("select", "q")
	l := []form{
		{"slot", "", 0, 0, number}, {"num", "", 0, 0, number}, {"text", "", 0, 0, number}, {"bool", "", 0, 0, number}, {"null", "", 0, 0, number},
		{"neg", "", 1, 1, number}, {"not", "", 1, 1, yes}, {"exists", "", 1, 1, query}, {"scalar", "", 1, 1, query},
		{"||", "", 2, 2, word}, {"and", "", 2, 2, yes}, {"or", "", 2, 2, yes}, {"like", "", 2, 2, word}, {"nullif", "", 2, 2, number},
		{"between", "", 3, 3, number}, {"in", "", 2, many, number}, {"coalesce", "", 1, many, number},
		{"in", "query", 2, 2, number}, {"any", "=", 2, 2, number}, {"all", "<", 2, 2, number},
	}
	for _, op := range []string{"+", "-", "*", "/", "=", "<>", "<", "<=", ">", ">="} {
		l = append(l, form{op, "", 2, 2, number})
	}
	for _, s := range []string{"null", "true", "false", "unknown"} {
		l = append(l, form{"is", s, 1, 1, yes})
	}
	return l
}

// same is a tree with a number of equal parts.
func same(op, s string, count int, part api.Node) api.Node {
	n := named(op, s)
	for range count {
		n.L = append(n.L, part)
	}
	return n
}

func TestNumberOfParts(t *testing.T) {
	for _, f := range forms() {
		for count := range 10 {
			asked := 0
			run := func(api.Node, []api.Row) ([]api.Row, api.State) {
				asked++
				return nil, api.Done
			}
			n := same(f.op, f.s, count, f.part)
			want := api.Done
			if count < f.least || count > f.most {
				want = api.Syntax
			}
			got, state := Value(n, nil, run)
			if state != want || state != api.Done && got != null {
				t.Errorf("P17.1: %s: %v, %s", show(n), got, state)
			}
			if want == api.Syntax && asked > 0 {
				t.Errorf("P17.1: %s: run was asked", show(n))
			}
		}
	}
}

func TestPartsThatFailBehindAForm(t *testing.T) {
	// A tree without the parts that it must have is none, whatever its parts come to.
	zero, no, yes := tree(t, "1 / 0"), leaf(boolean(false)), leaf(boolean(true))
	for _, n := range []api.Node{
		node("neg", zero, zero), node("+", zero), node("+", zero, zero, zero), node("=", zero), node("and", zero), node("and", no), node("or", yes), node("and", no, yes, yes), node("or", yes, yes, no),
		node("not", zero, zero), named("is", "null", zero, zero), named("is", "nil", zero), node("between", zero, zero), node("in", zero), node("like", zero), node("nullif", zero),
		node("case", zero), node("cast", zero, zero), node("cast", named("type", "integer")), node("cast", named("col", "integer"), zero), node("cast", leaf(num(1)), leaf(num(1))),
		node("cast", named("type", "integer", zero), zero), node("cast", named("type", "integer"), zero, zero), node("cast", zero, named("type", "integer")), node("scalar"), node("exists"),
	} {
		is(t, "P17.1", n, nil, nil, null, api.Syntax)
	}
}

func TestFormsOfCase(t *testing.T) {
	yes, no, one := leaf(boolean(true)), leaf(boolean(false)), leaf(num(1))
	for _, x := range []struct {
		n     api.Node
		want  api.Value
		state api.State
	}{
		{node("case"), null, api.Syntax},
		{node("case", one), null, api.Syntax},
		{node("case", node("when", yes, one)), null, api.Syntax},
		{node("case", node("when", no, one), node("when", yes, one)), null, api.Syntax},
		{node("case", node("when", yes, one), node("when", yes, one)), num(1), api.Done},
		{node("case", node("when", yes), one), null, api.Syntax},
		{node("case", node("when", yes, one, one), one), null, api.Syntax},
		{node("case", node("when"), one), null, api.Syntax},
		{node("case", node("then", yes, one), one), null, api.Syntax},
		{node("case", node("=", one, one), one), null, api.Syntax},
		{node("case", node("when", no, one), node("else", yes, one), one), null, api.Syntax},
		{node("case", node("when", no, one), node("when", no), one), null, api.Syntax},
		{node("when", yes, one), null, api.Syntax},
	} {
		is(t, "P17.1", x.n, nil, nil, x.want, x.state)
	}
}

func TestOtherTrees(t *testing.T) {
	for _, op := range []string{
		"", "zz", "col", "of", "type", "when", "star", "item", "select", "union", "query", "row", "name", "values", "count*", "count", "sum", "min", "max", "avg",
		"AND", "Or", "==", "!=", "%", "NUM", "Null", "true", "false", "unknown", "in query", "some", "key", "table", "derived", "grouped", "nul", "slots",
	} {
		for count := range 4 {
			n := same(op, "", count, leaf(boolean(true)))
			is(t, "P17.1", n, []api.Row{{num(1)}}, nil, null, api.Syntax)
			is(t, "P17.1", node("not", n), []api.Row{{num(1)}}, nil, null, api.Syntax)
			is(t, "P17.1", node("coalesce", leaf(null), n), []api.Row{{num(1)}}, nil, null, api.Syntax)
			if got, state := Truth(n, nil, nil); got != api.Unknown || state != api.Syntax {
				t.Errorf("P17.1: %s: %d, %s", show(n), got, state)
			}
		}
	}
}

func TestNoListOfPartsIsNoPart(t *testing.T) {
	for _, f := range forms() {
		n := api.Node{Op: f.op, S: f.s, L: []api.Node{}}
		if _, state := Value(n, nil, nil); (state == api.Done) != (f.least == 0) {
			t.Errorf("P17.1: %s: %s", show(n), state)
		}
	}
}
