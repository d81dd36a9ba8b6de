package bind

import (
	"math"
	"math/rand"
	"reflect"
	"slices"
	"strings"
	"testing"

	"stile/api"
	"stile/parse"
)

// nest is an expression within CASEs, each of so many WHENs: its tree stands there as often as the WHENs' numbers come to, one by the other.
func nest(expr string, whens ...int) string {
	for _, n := range whens {
		expr = "case " + expr + strings.Repeat(" when 1 then 2", n) + " end"
	}
	return expr
}

func TestSharedTrees(t *testing.T) {
	l := schema(t)
	for _, expr := range []string{"a", "t.a", "a + 1", "count(*)", "sum(a) + a * max(a + 1)", "(select d from u where u.a = t.a)", "(select max(u.a + t.a) from u where d = t.a)", "max((select d from u where u.a = t.a))", "(select sum(a) from u) + count(*)"} {
		for _, text := range []string{"select " + nest(expr, 3, 2, 3) + " from t group by b, a", "select a, " + nest(expr, 2) + " + " + nest(expr, 3, 2) + " from t group by a having " + nest(expr, 2, 2) + " = max(a)", "select " + nest("coalesce("+nest(expr, 2)+", "+nest(expr, 3)+")", 2) + " from t group by a"} {
			n := read(t, text)
			tree, columns, state := Query(l, n)
			wantTree, wantColumns, want := model{l}.query(n)
			if state != want || !sameTree(tree, wantTree) || !reflect.DeepEqual(columns, wantColumns) {
				t.Errorf("P16.1: %s: %s %s, not %s %s", text, state, show(tree), want, show(wantTree))
			}
		}
	}
	// A list of parts that stands in another scope, or in another tree, means something else.
	n := read(t, "select "+nest("a + 1", 2)+" from t where exists (select 1 from v where h = 1)")
	n.L[0].L[2].L[0].L[0].L[2].L[0].L[1] = n.L[0].L[0].L[0].L[0]
	queryBinds(t, l, n)
	n = read(t, "select sum(a + 1) + 1 from t group by b, a")
	sum := n.L[0].L[0].L[0].L[0]
	sum.L[1] = sum.L[0].L[0]
	queryBinds(t, l, n)
	parts := read(t, "select a in (select d from u) from t").L[0].L[0].L[0].L[0].L
	both := condition(t, "a = 1").L
	queryBinds(t, l, selectOf([]api.Node{
		{Op: "item", L: []api.Node{{Op: "in", S: "query", L: parts}}}, {Op: "item", L: []api.Node{{Op: "any", S: "=", L: parts}}}, {Op: "item", L: []api.Node{{Op: "any", S: "<", L: parts}}},
		{Op: "item", L: []api.Node{{Op: "=", L: both}}}, {Op: "item", L: []api.Node{{Op: "+", L: both}}}, {Op: "item", L: []api.Node{{Op: "+", N: 1, L: both}}},
	}))
}

// queryBinds tells a fault, if a tree is not bound as the model binds it.
func queryBinds(t *testing.T, l []api.Table, n api.Node) {
	t.Helper()
	tree, _, state := Query(l, n)
	want, _, wanted := model{l}.query(n)
	if state != wanted || state != api.Done || !sameTree(tree, want) {
		t.Errorf("P16.1: %s: %s %s, not %s %s", show(n), state, show(tree), wanted, show(want))
	}
}

// What stands at very many places is bound all the same.
func TestLargeTrees(t *testing.T) {
	l := schema(t)
	x := table(t, l, "t")
	many := []int{20, 20, 20, 20, 20, 20}
	for text, want := range map[string]api.State{
		"select " + nest("a", many...) + " from t": api.Done, "select 1 from t where " + nest("t.a", many...) + " = 1": api.Done, "select " + nest("(select max(d) from u where u.a = t.a)", many[2:]...) + " from t": api.Done, "select " + nest("z", many...) + " from t": api.NoColumn, "select 1 from t group by a having " + nest("a + 1", many[1:]...) + " = max(a)": api.Done, "select sum(" + nest("a", many[1:]...) + ") from t": api.Done, "select 1 from t where " + nest("max(a)", many[1:]...) + " = 1": api.Grouping, "select 1 from t join u on " + nest("d + t.a", many[2:]...) + " = 1": api.Done,
		"select " + nest("(select "+nest("(select "+nest("t.a + u.a", 30)+" from u)", 30)+" from v)", 30) + " from t": api.Done,
		"select " + nest("count(*)", many...) + " from t":                                                             api.TooLarge,
		"select " + nest("sum("+nest("a", 9, 9)+")", 20, 20, 20) + " from t":                                          api.TooLarge,
		"select 1 from t having " + nest(nest("t.a", 20, 20)+" + count(*)", 20, 20, 20) + " = 1":                      api.Grouping,
		"select 1 from t group by a having " + nest(nest("t.a", 20, 20)+" + count(*)", 20, 20) + " = 1":               api.Done,
	} {
		n, state := parse.Parse(text)
		if state != api.Done {
			t.Fatalf("no statement: %s: %s", text, state)
		}
		if _, _, state = Query(l, n); state != want {
			t.Errorf("P16.1: P1: %s: %s, not %s", text, state, want)
		}
	}
	n := condition(t, nest("a", 19, 19, 19, 19, 19, 19)+" = 1")
	if _, kind, state := Expr(l, x, n); state != api.Done || kind != api.Bool {
		t.Errorf("P16.1: P1: Expr of a large tree: %s, kind %d", state, kind)
	}
	if _, state := Check(x, n); state != api.Done {
		t.Errorf("P16.1: P1: Check of a large tree: %s", state)
	}
}

// A slot has room for 1000 places of a scope.
func TestManyTotals(t *testing.T) {
	l := schema(t)
	thousand := nest("count(*)", 10, 10, 10)
	tree := queryIs(t, l, "select "+thousand+" from t", api.Done)
	if totals := part(t, tree.L[0], "totals"); len(totals.L) != 1000 {
		t.Errorf("P16.1: B1: %d totals, not 1000", len(totals.L))
	}
	for text, want := range map[string]api.State{
		"select " + thousand + ", count(*) from t": api.TooLarge, "select 1 from t group by a having " + thousand + " = 1": api.TooLarge, "select count(*), " + thousand + " from t": api.TooLarge,
		// As it is met.
		"select " + thousand + ", sum(z) from t": api.NoColumn, "select " + thousand + ", sum(b) from t": api.Mismatch, "select " + thousand + ", sum(a), z from t": api.TooLarge, "select " + thousand + ", z, sum(a) from t": api.NoColumn,
		"select " + thousand + " from t having exists (select count(*) from u)":                                         api.Done,
		"select " + nest("count(*)", 9, 10, 11) + " from t group by a, b, c, a, b, c, a, b, c, a":                       api.Done,
		"select " + nest("count(*)", 9, 10, 11) + " from t group by a, b, c, a, b, c, a, b, c, a, b":                    api.TooLarge,
		"select " + nest("count(*)", 27, 37) + ", max(a) from t group by t.b":                                           api.TooLarge,
		"select " + nest("count(*)", 27, 37) + " from t group by t.b":                                                   api.Done,
		"select (select " + nest("max(d)", 27, 37) + " from u) + (select " + nest("max(d)", 27, 37) + " from u) from t": api.Done,
	} {
		queryIs(t, l, text, want)
	}
}

// The deepest trees that Parse tells are bound.
func TestDeepTrees(t *testing.T) {
	l := schema(t)
	x := table(t, l, "t")
	for _, c := range []struct{ inmost, ahead, behind string }{
		{"a = 1", "not ", ""}, {"c", "coalesce(", ")"}, {"exists (select 1 from u where d = t.a)", "not ", ""}, {"t.c", "exists (select 1 from t where ", ")"}, {"c", "t.a in (select d from u where ", ")"},
	} {
		text, bound := c.inmost, 0
		for ; ; bound++ {
			n, state := parse.Parse("delete from t where " + text)
			if state == api.TooComplex {
				break
			}
			if state != api.Done {
				t.Fatalf("no statement: %s: %s", text, state)
			}
			exprIs(t, l, x, text, api.Done, api.Bool)
			want := api.Done
			if strings.Contains(text, "select") {
				want = api.Syntax
			}
			if _, state := Check(x, n.L[0].L[0]); state != want {
				t.Errorf("P1: Check: %s: %s", text, state)
			}
			text = c.ahead + text + c.behind
		}
		if bound < 4 {
			t.Errorf("%s: %d trees alone were bound", c.inmost, bound)
		}
	}
	// Derived tables within one another, and bodies put together.
	text, bound := "select a, b from t", 0
	for ; ; bound++ {
		if _, state := parse.Parse(text); state == api.TooComplex {
			break
		}
		columnsAre(t, l, text, "a n, b x")
		text = "select x.a, b from (" + text + ") x"
	}
	if bound < 4 {
		t.Errorf("%d derived tables alone were bound", bound)
	}
	columnsAre(t, l, "select a from t"+strings.Repeat(" union select d from u", 19), "a n")
}

// chain is a tree of that depth.
func chain(depth int) api.Node {
	n := api.Node{Op: "bool"}
	for range depth - 1 {
		n = api.Node{Op: "not", L: []api.Node{n}}
	}
	return n
}

// Trees that are far deeper than Parse tells them, or have no end, are told from one another.
func TestEndlessTrees(t *testing.T) {
	l := schema(t)
	x := table(t, l, "t")
	for depth, want := range map[int]api.State{1: api.Done, 2: api.Done, 100: api.Done, 1 << 16: api.Done, 1<<16 + 1: api.Syntax, 1 << 18: api.Syntax} {
		n := chain(depth)
		if _, _, state := Expr(l, x, n); state != want {
			t.Errorf("P1: a tree of depth %d: %s, not %s", depth, state, want)
		}
		if _, state := Check(x, n); state != want {
			t.Errorf("P1: a tree of depth %d: %s, not %s", depth, state, want)
		}
	}
	n := api.Node{Op: "bool"}
	for range 60 {
		n = api.Node{Op: "and", L: []api.Node{n, n}}
	}
	if _, kind, state := Expr(l, x, n); state != api.Done || kind != api.Bool {
		t.Errorf("P1: a tree that stands twice in each tree around it: %s", state)
	}
	if _, state := Check(x, n); state != api.Done {
		t.Errorf("P1: Check of a tree that stands twice in each tree around it: %s", state)
	}
	queryTreeIs(t, l, selectOf([]api.Node{{Op: "item", L: []api.Node{n}}}), api.Done)
	for _, op := range allOps {
		round := []api.Node{{Op: op, S: "query"}, {Op: op}}
		for count := 1; count <= 2; count++ {
			round[0].L, round[1].L = round[:count], round
			for _, n := range round {
				attempts(t, l, x, n)
				attempts(t, l, x, api.Node{Op: "query", L: []api.Node{n, {Op: "order"}}})
				attempts(t, l, x, selectOf(round[:count]))
			}
		}
	}
}

// selectOf is a query that has these items.
func selectOf(items []api.Node) api.Node {
	from := api.Node{Op: "from", L: []api.Node{{Op: "table", S: "t", L: []api.Node{{Op: "as", S: "t"}}}}}
	clauses := []api.Node{{Op: "items", L: items}, from, {Op: "where"}, {Op: "group"}, {Op: "having"}}
	return api.Node{Op: "query", L: []api.Node{{Op: "select", L: clauses}, {Op: "order"}}}
}

var allOps = strings.Fields("query order key select items item star from where group having table as derived cross inner left right full union except intersect or and not = <> < <= > >= any all is between like in + - || * / neg num text bool null col of scalar exists case when cast type coalesce nullif count* count sum min max slot totals grouped delete column")

// attempts makes all calls of a tree that may be of any form: each ends in a state of the chapter, with nothing beside it.
func attempts(t *testing.T, l []api.Table, x api.Table, n api.Node) {
	t.Helper()
	known := []api.State{api.Done, api.Syntax, api.Ambiguous, api.NoColumn, api.Grouping, api.Mismatch, api.NoTable, api.TwoTables, api.TooLarge}
	tree, columns, state := Query(l, n)
	if !slices.Contains(known, state) || state != api.Done && (!isNothing(tree) || len(columns) > 0) {
		t.Errorf("P1: Query: %s beside %s, %v", state, tree.Op, columns)
	}
	tree, kind, state := Expr(l, x, n)
	if !slices.Contains(known, state) || state != api.Done && (!isNothing(tree) || kind != api.Null) {
		t.Errorf("P1: Expr: %s beside %s, kind %d", state, tree.Op, kind)
	}
	tree, state = Check(x, n)
	if !slices.Contains(known, state) || state != api.Done && !isNothing(tree) {
		t.Errorf("P1: Check: %s beside %s", state, tree.Op)
	}
}

func (g *maker) wild(depth int) api.Node {
	n := api.Node{Op: allOps[g.r.Intn(len(allOps))], S: g.one("", "", "a", "b", "t", "u", "x", "query", "=", "null", "char"), N: []int64{0, 1, 2, 1000, -1, math.MaxInt64, math.MinInt64}[g.r.Intn(7)]}
	for depth > 0 && g.r.Intn(3) > 0 && len(n.L) < 7 {
		n.L = append(n.L, g.wild(depth-1))
	}
	return n
}

// bent is a tree that may be told, with some of its parts left out, put in or changed.
func (g *maker) bent(n api.Node) api.Node {
	n = deepTree(n)
	for at := 0; at < len(n.L); at++ {
		switch g.r.Intn(80) {
		case 0:
			n.L = slices.Delete(n.L, at, at+1)
		case 1:
			n.L = slices.Insert(n.L, at, g.wild(2))
		case 2:
			n.L[at].L = nil
		case 3:
			n.L[at].S = g.one("", "a", "t", "query", "zz")
		case 4:
			n.L[at].Op = allOps[g.r.Intn(len(allOps))]
		case 5:
			n.L[at] = g.wild(3)
		default:
			n.L[at] = g.bent(n.L[at])
		}
	}
	return n
}

// wildSchema is a list of tables of any form.
func (g *maker) wildSchema() []api.Table {
	var l []api.Table
	for range g.r.Intn(4) {
		x := api.Table{Name: g.one("", "t", "u", "x")}
		for range g.r.Intn(5) {
			x.Columns = append(x.Columns, api.Column{Name: g.one("", "a", "b", "?"), Type: api.Type{Base: api.Base(g.r.Intn(9) - 1), Len: g.r.Intn(3)}})
		}
		l = append(l, x)
	}
	return l
}

// What is handed in need not be such as the layers ahead tell it: each call ends, and none panics.
func TestWild(t *testing.T) {
	g := &maker{r: rand.New(rand.NewSource(163))}
	l := schema(t)
	x := table(t, l, "t")
	row := []frame{{columns: []named{{"t", "a", api.Num}, {"t", "b", api.Text}, {"t", "c", api.Bool}}}}
	for range 4000 {
		if t.Failed() {
			return
		}
		attempts(t, l, x, g.wild(4))
		if n, state := parse.Parse(g.query()); state == api.Done {
			attempts(t, l, x, g.bent(n))
			attempts(t, g.wildSchema(), x, n)
		}
		if n, state := parse.Parse("delete from t where " + g.expr(api.Bool, 3, row)); state == api.Done {
			attempts(t, l, x, g.bent(n.L[0].L[0]))
			for _, x := range g.wildSchema() {
				attempts(t, l, x, n.L[0].L[0])
			}
		}
		attempts(t, l, x, selectOf([]api.Node{g.wild(3), g.wild(2)}))
	}
}

// A tree that is none of those that Parse tells is no statement.
func TestNoTrees(t *testing.T) {
	l := schema(t)
	x := table(t, l, "t")
	for _, text := range []string{"delete from t", "insert into t values (1)", "create table x (a int primary key)", "commit", "declare c cursor for select a from t"} {
		queryTreeIs(t, l, read(t, text), api.Syntax)
	}
	whole := read(t, "select a from t")
	for _, n := range []api.Node{{}, {Op: "query"}, whole.L[0], whole.L[1], {Op: "query", L: whole.L[:1]}, {Op: "query", L: []api.Node{whole, whole.L[1]}}, {Op: "query", L: []api.Node{whole.L[0], whole.L[0]}}} {
		queryTreeIs(t, l, n, api.Syntax)
	}
	for _, n := range []api.Node{{}, {Op: "slot"}, {Op: "when"}, whole, whole.L[0], {Op: "+"}, {Op: "case"}, {Op: "exists"}, {Op: "in", S: "query"}, {Op: "coalesce"}, {Op: "cast"}, {Op: "is"}} {
		if _, _, state := Expr(l, x, n); state != api.Syntax {
			t.Errorf("P1: Expr: %s: %s, not %s", show(n), state, api.Syntax)
		}
		if _, state := Check(x, n); state != api.Syntax {
			t.Errorf("P1: Check: %s: %s, not %s", show(n), state, api.Syntax)
		}
	}
	// What was bound is not bound again.
	bound, _, _ := Query(l, whole)
	queryTreeIs(t, l, bound, api.Syntax)
}

func queryTreeIs(t *testing.T, l []api.Table, n api.Node, want api.State) {
	t.Helper()
	if _, _, state := asked(t, l, n); state != want {
		t.Errorf("P1: %s of %d parts: %s, not %s", n.Op, len(n.L), state, want)
	}
}

// roomySchema is a schema, and behind each of its lists an element more.
func roomySchema(l []api.Table) []api.Table {
	out := make([]api.Table, len(l)+1)
	for i, x := range l {
		x.Columns = append(slices.Clone(x.Columns), api.Column{Name: mark})[:len(x.Columns)]
		out[i] = x
	}
	out[len(l)] = api.Table{Name: mark}
	return out[:len(l)]
}

// An answer hangs on the arguments alone: it is the same again, whatever becomes of the one ahead; and what was handed in stays as it was.
func TestAgain(t *testing.T) {
	l := schema(t)
	g := &maker{r: rand.New(rand.NewSource(164))}
	for range 300 {
		text := g.query()
		n, state := parse.Parse(text)
		if state != api.Done {
			continue
		}
		handed := roomySchema(l)
		tree, columns, state := Query(handed, n)
		kept, keptColumns := deepTree(tree), slices.Clone(columns)
		for i := range columns {
			columns[i] = api.Column{Name: "spoilt", NotNull: true}
		}
		for i, x := range handed {
			if !reflect.DeepEqual(x, l[i]) || x.Columns[:len(x.Columns)+1][len(x.Columns)].Name != mark || handed[:len(l)+1][len(l)].Name != mark {
				t.Fatalf("P2: %s: the schema was written into", text)
			}
			// What is handed in is not kept.
			handed[i] = api.Table{}
		}
		Query(nil, n)
		again, others, second := Query(l, n)
		if second != state || !sameTree(again, kept) || !slices.Equal(others, keptColumns) || !sameTree(tree, kept) {
			t.Fatalf("P2: %s: %s, then %s", text, state, second)
		}
	}
}

// FuzzQuery: whatever is parsed is bound as the model binds it.
func FuzzQuery(f *testing.F) {
	for _, text := range []string{
		"select b from t where a = 1", "select a from t group by b", "select 1 from t where exists (select 1 from u where u.a = t.a)", "select max(a), b, count(*) from t group by b, c having sum(a) > 1 order by 2 desc",
		"select x.k, d from (select a as k from t union select 1 from u) x left join u on k = d", "select case a when 1 then cast(b as char) end from t where c and b like 'x' or a in (1, 2)",
	} {
		f.Add(text)
	}
	l := []api.Table{
		{Name: "t", Columns: []api.Column{{Name: "a", Type: api.Type{Base: api.Integer}}, {Name: "b", Type: api.Type{Base: api.Char, Len: 3}}, {Name: "c", Type: api.Type{Base: api.Boolean}}}},
		{Name: "u", Columns: []api.Column{{Name: "a", Type: api.Type{Base: api.Integer}}, {Name: "d", Type: api.Type{Base: api.Big}}}},
	}
	f.Fuzz(func(t *testing.T, text string) {
		n, state := parse.Parse(text)
		if state != api.Done || n.Op != "query" || strings.Count(text, "case") > 2 {
			return
		}
		tree, columns, state := Query(l, n)
		want, wantColumns, wanted := model{l}.query(n)
		if state != wanted || state == api.Done && (!sameTree(tree, want) || !reflect.DeepEqual(columns, wantColumns)) {
			t.Errorf("P16.1: %s: %s %s, not %s %s", text, state, show(tree), wanted, show(want))
		}
		if why := illBound(tree); state == api.Done && why != "" {
			t.Errorf("P16.2: %s: %s", text, why)
		}
	})
}
