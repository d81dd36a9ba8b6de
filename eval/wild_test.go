package eval

import (
	"math"
	"math/rand"
	"slices"
	"strings"
	"testing"
	"time"

	"stile/api"
)

// soon asks that something ends within a time that no tree needs.
func soon(t *testing.T, what string, ask func()) {
	t.Helper()
	began := time.Now()
	ask()
	if took := time.Since(began); took > 20*time.Second {
		t.Errorf("P1: %s took %s", what, took)
	}
}

// isSoon holds what a tree comes to against what it must. The tree is not shown: it may be too large for that.
func isSoon(t *testing.T, what string, n api.Node, rows []api.Row, run Run, want api.Value, state api.State) {
	t.Helper()
	began := time.Now()
	if got, s := Value(n, rows, run); got != want || s != state {
		t.Errorf("P17.1: %s: %v, %s, not %v, %s", what, got, s, want, state)
	}
	if took := time.Since(began); took > 20*time.Second {
		t.Errorf("P1: %s took %s", what, took)
	}
}

// chain is a tree that stands in itself a number of times, by way of one part of an operation.
func chain(end api.Node, times int, around func(n api.Node) api.Node) api.Node {
	for range times {
		end = around(end)
	}
	return end
}

// arounds are the ways by which an expression may stand in another one, which tells a truth if it does, and asks all of its parts.
func arounds() map[string]func(n api.Node) api.Node {
	yes, no := leaf(boolean(true)), leaf(boolean(false))
	return map[string]func(n api.Node) api.Node{
		"not":         func(n api.Node) api.Node { return node("not", n) },
		"and":         func(n api.Node) api.Node { return node("and", n, yes) },
		"and behind":  func(n api.Node) api.Node { return node("and", yes, n) },
		"or":          func(n api.Node) api.Node { return node("or", n, no) },
		"or behind":   func(n api.Node) api.Node { return node("or", no, n) },
		"=":           func(n api.Node) api.Node { return node("=", n, yes) },
		"<> behind":   func(n api.Node) api.Node { return node("<>", no, n) },
		"is":          func(n api.Node) api.Node { return named("is", "true", n) },
		"between":     func(n api.Node) api.Node { return node("between", n, n, n) },
		"in":          func(n api.Node) api.Node { return node("in", yes, no, n) },
		"case":        func(n api.Node) api.Node { return node("case", node("when", n, yes), no) },
		"then":        func(n api.Node) api.Node { return node("case", node("when", yes, n), no) },
		"else":        func(n api.Node) api.Node { return node("case", node("when", no, yes), n) },
		"coalesce":    func(n api.Node) api.Node { return node("coalesce", leaf(null), n) },
		"nullif":      func(n api.Node) api.Node { return node("nullif", n, leaf(null)) },
		"cast":        func(n api.Node) api.Node { return node("cast", named("type", "boolean"), n) },
		"in query":    func(n api.Node) api.Node { return named("in", "query", n, named("select", "q")) },
		"any":         func(n api.Node) api.Node { return named("any", "=", n, named("select", "q")) },
		"all":         func(n api.Node) api.Node { return named("all", "=", n, named("select", "q")) },
		"both shared": func(n api.Node) api.Node { return node("and", n, n) },
		"all shared":  func(n api.Node) api.Node { return node("case", node("when", n, n), node("when", n, n), n) },
	}
}

func TestDeepTrees(t *testing.T) {
	// DOC.md's bound: that many parts may be nested in one another.
	const deep = 1 << 16
	for name, around := range arounds() {
		times := deep
		switch name {
		case "case", "then", "all shared":
			times = deep / 2
		}
		n := chain(leaf(boolean(true)), times, around)
		isSoon(t, name, n, nil, replying(boolean(true)), boolean(true), api.Done)
		n = chain(node("/", leaf(num(1)), leaf(num(0))), times/16, around)
		isSoon(t, name, n, nil, replying(boolean(true)), null, api.Zero)
	}
	for times, want := range map[int]api.Value{deep: num(3), deep - 1: num(-3)} {
		turned := chain(leaf(num(3)), times, func(n api.Node) api.Node { return node("neg", n) })
		if got, state := Value(turned, nil, nil); got != want || state != api.Done {
			t.Errorf("P17.1: neg %d times: %v, %s", times, got, state)
		}
	}
	sum := chain(leaf(num(0)), deep, func(n api.Node) api.Node { return node("+", n, leaf(num(1))) })
	if got, state := Value(sum, nil, nil); got != num(deep) || state != api.Done {
		t.Errorf("P17.1: a long sum: %v, %s", got, state)
	}
	sum = chain(leaf(text("a")), deep, func(n api.Node) api.Node { return node("+", leaf(num(1)), n) })
	if got, state := Value(sum, nil, nil); got != null || state != api.Mismatch {
		t.Errorf("P17.1: a long sum of a text: %v, %s", got, state)
	}
	beyond := chain(leaf(boolean(true)), 1<<20, arounds()["not"])
	soon(t, "beyond the bound", func() { Value(beyond, nil, nil) })
}

func TestTreesThatStandInThemselves(t *testing.T) {
	for name, around := range arounds() {
		for _, times := range []int{1, 2, 100, 10000} {
			end := node("coalesce", leaf(null))
			ring := chain(end, times, around)
			end.L[0] = ring
			isSoon(t, "a ring of "+name, ring, nil, replying(boolean(true)), null, api.Syntax)
		}
	}
	wide := same("coalesce", "", 20000, leaf(null))
	wide.L[len(wide.L)-1] = wide
	isSoon(t, "a wide ring", node("not", wide), nil, nil, null, api.Syntax)
	for _, op := range []string{"+", "and", "=", "between", "in", "case", "nullif", "any", "is"} {
		ring := same(op, "", 3, leaf(num(1)))
		for i := range ring.L {
			ring.L[i] = ring
		}
		for count := range 4 {
			short := api.Node{Op: op, S: "true", L: ring.L[:count]}
			isSoon(t, "a ring of "+op, short, nil, replying(boolean(true)), null, api.Syntax)
		}
	}
}

func TestPartsThatStandAtManyPlaces(t *testing.T) {
	for _, op := range []string{"+", "*", "-"} {
		n := chain(leaf(num(0)), 60, func(n api.Node) api.Node { return node(op, n, n) })
		isSoon(t, op+" of the same", n, nil, nil, num(0), api.Done)
	}
	n := chain(leaf(num(1)), 62, func(n api.Node) api.Node { return node("+", n, n) })
	isSoon(t, "a power of 2", n, nil, nil, num(1<<62), api.Done)
	n = chain(leaf(num(1)), 63, func(n api.Node) api.Node { return node("+", n, n) })
	isSoon(t, "a power of 2 that is too great", n, nil, nil, null, api.OutOfRange)
	n = chain(leaf(null), 500, func(n api.Node) api.Node { return node("coalesce", n, n, n) })
	isSoon(t, "coalesce of the same", n, nil, nil, null, api.Done)
	n = chain(leaf(num(1)), 500, func(n api.Node) api.Node {
		return node("case", node("when", node("=", n, leaf(num(2))), n), node("when", node("=", n, leaf(num(3))), n), n)
	})
	isSoon(t, "case of the same", n, nil, nil, num(1), api.Done)
	n = chain(probe("q"), 500, func(n api.Node) api.Node { return node("and", n, n) })
	isSoon(t, "a query at many places", n, nil, replying(boolean(true)), boolean(true), api.Done)
	n = chain(leaf(num(5)), 40, func(n api.Node) api.Node { return node("in", n, n, n) })
	isSoon(t, "in of the same", n, nil, nil, boolean(true), api.Done)
}

func TestCaseWithinCase(t *testing.T) {
	// What stands behind CASE is the first part of each of its conditions, so that it is asked again for each WHEN.
	for _, inmost := range []string{"1 + 0", "(select 1 from q)"} {
		text := inmost
		for range 5 {
			text = "case " + text + strings.Repeat(" when 2 then 1", 22) + " else 1 end"
		}
		isSoon(t, "case within case", tree(t, text), nil, replying(num(1)), num(1), api.Done)
	}
}

func replying(v api.Value) Run {
	return func(api.Node, []api.Row) ([]api.Row, api.State) { return []api.Row{{v}}, api.Done }
}

func TestFewQuestionsAreNotForgone(t *testing.T) {
	// In a tree of a statement's size each place is asked for itself, even if two places have one list of parts.
	q := probe("q")
	s := &script{replies: map[string]reply{"q": one(num(1))}}
	n := same("coalesce", "", 300, node("nullif", q, q))
	is(t, "P17.1", n, nil, s.run, null, api.Done)
	if len(s.asked) != 600 {
		t.Errorf("P17.1: asked %d times, not 600", len(s.asked))
	}
}

func TestOneListOfManyTrees(t *testing.T) {
	// In a large tree, too, two trees with one list of parts are two trees, if they are not the same otherwise.
	busy := same("coalesce", "", 5000, leaf(null))
	numbers, truth := leaves(num(3), num(4), num(3)), leaves(boolean(true))
	for _, x := range []struct {
		one, other api.Node
		want       api.Value
	}{
		{node("+", numbers[:2]...), node("*", numbers[:2]...), boolean(false)},
		{node("+", numbers[:2]...), node("+", numbers[1:]...), boolean(true)},
		{node("+", numbers[:2]...), node("+", numbers[:2]...), boolean(true)},
		{node("-", numbers[:2]...), node("-", numbers[1:]...), boolean(false)},
		{named("is", "true", truth...), named("is", "false", truth...), boolean(false)},
		{node("in", numbers[:2]...), node("in", numbers...), boolean(false)},
	} {
		n := node("=", node("coalesce", busy, x.one), x.other)
		isSoon(t, "a large tree", n, nil, replying(num(3)), x.want, api.Done)
	}
}

func TestWildTrees(t *testing.T) {
	r := rand.New(rand.NewSource(5))
	ops := []string{
		"slot", "num", "text", "bool", "null", "+", "-", "*", "/", "||", "neg", "=", "<>", "<", "<=", ">", ">=", "and", "or", "not", "is", "between", "in", "like", "case", "when",
		"coalesce", "nullif", "cast", "type", "exists", "scalar", "any", "all", "select", "col", "count*", "count", "sum", "min", "max", "", "zz",
	}
	words := []string{"", "query", "null", "true", "unknown", "=", "<", "char", "integer", "a%", "zz"}
	numbers := []int64{0, 1, 2, 3, 1000, 1001, 2000, -1, math.MaxInt64, math.MinInt64}
	run := func(body api.Node, rows []api.Row) ([]api.Row, api.State) {
		if len(body.L) == 1 {
			return rows, api.Zero
		}
		return rows[:min(len(rows), len(body.L))], api.Done
	}
	// Kinds that are none, and fields that a kind does not use, may be anything.
	rows := []api.Row{{num(1), {Kind: 9}, {Kind: -1, N: 3, S: "x", B: true}, text("a")}, {}, nil, {{Kind: api.Null, N: 4}, boolean(true)}}
	for range 60000 {
		var all []api.Node
		for range 1 + r.Intn(12) {
			n := api.Node{Op: ops[r.Intn(len(ops))], S: words[r.Intn(len(words))], N: numbers[r.Intn(len(numbers))]}
			for range r.Intn(4) {
				if len(all) > 0 {
					n.L = append(n.L, all[r.Intn(len(all))])
				}
			}
			all = append(all, n)
		}
		n := all[len(all)-1]
		handed := rows[:r.Intn(len(rows)+1)]
		first, state := Value(n, handed, run)
		if state != api.Done && first != null || state == "" {
			t.Fatalf("P1: %s: %v, %s", show(n), first, state)
		}
		again, once := Value(n, handed, run)
		if again != first || once != state {
			t.Fatalf("P2: %s: %v, %s, and then %v, %s", show(n), first, state, again, once)
		}
		Truth(n, handed, run)
		for _, row := range rows {
			Total(n, row)
			Total(api.Node{Op: totals()[r.Intn(5)], N: int64(r.Intn(2))}, row)
		}
	}
}

func TestNothingIsChanged(t *testing.T) {
	r := rand.New(rand.NewSource(99))
	known := answers()
	for range 20000 {
		m := maker{r, 30}
		n := spacious(m.expr(api.Kind(1+r.Intn(3)), 1+r.Intn(4)))
		rows := append(m.rows(), api.Row{num(77)})
		for i, row := range rows {
			rows[i] = append(slices.Clone(row), num(78), num(79))[:len(row)]
		}
		handed := rows[:len(rows)-1]
		before, rowsBefore := whole(n), copiedRows(extended(rows))
		answersBefore := make([][]api.Row, len(known))
		for i := range known {
			answersBefore[i] = copiedRows(known[i])
		}
		var asked []api.Node
		Value(n, handed, answering(known, &asked))
		Truth(n, handed, answering(known, &asked))
		Total(n, handedValues(handed))
		if !sameTree(whole(n), before) {
			t.Fatalf("P17.1: %s was %s", show(whole(n)), show(before))
		}
		if !sameRows(extended(rows), rowsBefore) {
			t.Fatalf("P17.1: %s: the rows are %v, were %v", show(n), rows, rowsBefore)
		}
		for i := range known {
			if !sameRows(known[i], answersBefore[i]) {
				t.Fatalf("P17.1: %s: what run told is %v, was %v", show(n), known[i], answersBefore[i])
			}
		}
	}
}

func handedValues(rows []api.Row) []api.Value {
	if len(rows) == 0 {
		return nil
	}
	return rows[0]
}

// extended is rows with what lies behind their lengths.
func extended(rows []api.Row) []api.Row {
	var out []api.Row
	for _, row := range rows {
		out = append(out, row[:cap(row)])
	}
	return out
}

// spacious is a tree whose lists have another part behind their lengths.
func spacious(n api.Node) api.Node {
	var l []api.Node
	for _, part := range n.L {
		l = append(l, spacious(part))
	}
	n.L = append(l, api.Node{Op: "behind", N: 7})[: len(l) : len(l)+1]
	return n
}

// whole is a tree with what lies behind its lists' lengths.
func whole(n api.Node) api.Node {
	out := api.Node{Op: n.Op, S: n.S, N: n.N}
	for _, part := range n.L[:cap(n.L)] {
		out.L = append(out.L, whole(part))
	}
	return out
}

func TestAPanicOfRunIsNotHidden(t *testing.T) {
	defer func() {
		if thrown := recover(); thrown != "of run" {
			t.Errorf("P1: thrown was %v", thrown)
		}
	}()
	Value(probe("q"), nil, func(api.Node, []api.Row) ([]api.Row, api.State) { panic("of run") })
}

func TestRunMayAskForValues(t *testing.T) {
	// A query's conditions are asked within run.
	inner := tree(t, "s0 / s1000")
	run := func(_ api.Node, rows []api.Row) ([]api.Row, api.State) {
		v, state := Value(inner, append([]api.Row{{num(12)}}, rows...), nil)
		return []api.Row{{v}}, state
	}
	is(t, "P17.1", tree(t, "s0 + (select 1 from q)"), []api.Row{{num(3)}}, run, num(7), api.Done)
	is(t, "P17.1", tree(t, "s0 + (select 1 from q)"), []api.Row{{num(0)}}, run, null, api.Zero)
	is(t, "P17.2", tree(t, "s0 = 0 or 1 = (select 1 from q)"), []api.Row{{num(0)}}, run, boolean(true), api.Done)
}

func FuzzValue(f *testing.F) {
	for i := range int64(30) {
		f.Add(i, byte(i))
	}
	known := answers()
	f.Fuzz(func(t *testing.T, seed int64, wild byte) {
		m := maker{rand.New(rand.NewSource(seed)), int(wild)}
		n, rows := m.expr(api.Kind(m.r.Intn(4)), 1+m.r.Intn(6)), m.rows()
		var asked, wanted []api.Node
		want, state := model{rows, answering(known, &wanted)}.value(n)
		if state != api.Done {
			want = null
		}
		is(t, "P17.1", n, rows, answering(known, &asked), want, state)
		if !slices.EqualFunc(asked, wanted, sameTree) {
			t.Errorf("P17.2: %s: asked were %d queries, not %d", show(n), len(asked), len(wanted))
		}
	})
}
