package bind

import (
	"math/rand"
	"reflect"
	"testing"

	"stile/api"
	"stile/parse"
	"stile/types"
)

// The chapter once more, as it reads: states are handed back, scopes are a list, and a tree is gone over as often as it stands somewhere.

type modelColumn struct {
	alias, name string
	kind        api.Kind
}

// modelScope has rows' columns as well, if it is a group's; totals are then counted behind its columns.
type modelScope struct {
	columns, rows []modelColumn
	grouped       bool
	totals        *[]api.Node
}

type model struct{ schema []api.Table }

func (m model) query(n api.Node) (api.Node, []api.Column, api.State) {
	body, columns, state := m.body(n.L[0], nil)
	if state != api.Done {
		return api.Node{}, nil, state
	}
	order := api.Node{Op: "order"}
	for _, key := range n.L[1].L {
		place := -1
		switch by := key.L[0]; {
		case by.Op == "num" && (by.N < 1 || by.N > int64(len(columns))):
			return api.Node{}, nil, api.Syntax
		case by.Op == "num":
			place = int(by.N) - 1
		case len(by.L) > 0:
			return api.Node{}, nil, api.NoColumn
		default:
			for at := len(columns) - 1; at >= 0; at-- {
				if columns[at].name == by.S {
					place = at
				}
			}
		}
		if place < 0 {
			return api.Node{}, nil, api.NoColumn
		}
		order.L = append(order.L, api.Node{Op: "key", S: key.S, N: int64(place)})
	}
	var told []api.Column
	for _, c := range columns {
		base := map[api.Kind]api.Base{api.Num: api.Big, api.Text: api.Varchar, api.Bool: api.Boolean}[c.kind]
		told = append(told, api.Column{Name: c.name, Type: api.Type{Base: base}})
	}
	return api.Node{Op: "query", L: []api.Node{body, order}}, told, api.Done
}

func (m model) body(n api.Node, around []modelScope) (api.Node, []modelColumn, api.State) {
	if n.Op == "select" {
		return m.selection(n, around)
	}
	a, left, state := m.body(n.L[0], around)
	if state != api.Done {
		return a, nil, state
	}
	b, right, state := m.body(n.L[1], around)
	if state != api.Done {
		return b, nil, state
	}
	if len(left) != len(right) {
		return b, nil, api.Syntax
	}
	var columns []modelColumn
	for at := range left {
		kind, is := modelTogether(left[at].kind, right[at].kind)
		if !is {
			return b, nil, api.Mismatch
		}
		columns = append(columns, modelColumn{name: left[at].name, kind: kind})
	}
	return api.Node{Op: n.Op, N: n.N, L: []api.Node{a, b}}, columns, api.Done
}

func modelTogether(a, b api.Kind) (api.Kind, bool) {
	switch {
	case a == api.Null:
		return b, true
	case b == api.Null:
		return a, true
	}
	return a, a == b
}

func (m model) selection(n api.Node, around []modelScope) (tree api.Node, columns []modelColumn, state api.State) {
	items, from, where, group, having := n.L[0], api.Node{Op: "from"}, api.Node{Op: "where"}, api.Node{Op: "group"}, api.Node{Op: "having"}
	var rows []modelColumn
	for _, table := range n.L[1].L {
		x, state := m.table(table, &rows, around)
		if state != api.Done {
			return tree, nil, state
		}
		from.L = append(from.L, x)
	}
	scope := modelScope{columns: rows}
	if len(n.L[2].L) > 0 {
		x, state := m.condition(n.L[2].L[0], inner(scope, around))
		if state != api.Done {
			return tree, nil, state
		}
		where.L = []api.Node{x}
	}
	var totals []api.Node
	if len(n.L[3].L) > 0 || len(n.L[4].L) > 0 || modelHasTotal(items) {
		scope = modelScope{rows: rows, grouped: true, totals: &totals}
	}
	for _, col := range n.L[3].L {
		at, _, state := modelFind(col, []modelScope{{columns: rows}})
		if state != api.Done {
			return tree, nil, state
		}
		group.L = append(group.L, api.Node{Op: "slot", N: at})
		scope.columns = append(scope.columns, rows[at])
	}
	bound, columns, state := m.items(items, scope, around)
	if state != api.Done {
		return tree, nil, state
	}
	if len(n.L[4].L) > 0 {
		x, state := m.condition(n.L[4].L[0], inner(scope, around))
		if state != api.Done {
			return tree, nil, state
		}
		having.L = []api.Node{x}
	}
	last := api.Node{Op: "grouped"}
	if scope.grouped {
		last.N = 1
	}
	return api.Node{Op: "select", N: n.N, L: []api.Node{bound, from, where, group, having, {Op: "totals", L: totals}, last}}, columns, api.Done
}

func inner(s modelScope, around []modelScope) []modelScope {
	return append([]modelScope{s}, around...)
}

func modelHasTotal(n api.Node) bool {
	switch n.Op {
	case "count*", "count", "sum", "min", "max":
		return true
	case "exists", "scalar":
		return false
	case "any", "all":
		return modelHasTotal(n.L[0])
	}
	for i, part := range n.L {
		if (n.Op != "in" || n.S != "query" || i == 0) && modelHasTotal(part) {
			return true
		}
	}
	return false
}

func (m model) table(n api.Node, rows *[]modelColumn, around []modelScope) (tree api.Node, state api.State) {
	var columns []modelColumn
	alias := n.S
	switch n.Op {
	case "table":
		var found *api.Table
		for i := range m.schema {
			if m.schema[i].Name == n.S {
				found = &m.schema[i]
			}
		}
		if found == nil {
			return tree, api.NoTable
		}
		for _, c := range found.Columns {
			columns = append(columns, modelColumn{name: c.Name, kind: types.KindOf(c.Type)})
		}
		alias = n.L[0].S
		tree = api.Node{Op: "table", S: n.S, N: int64(len(columns))}
	case "derived":
		body, found, state := m.body(n.L[0], around)
		if state != api.Done {
			return tree, state
		}
		columns = found
		tree = api.Node{Op: "derived", N: int64(len(columns)), L: []api.Node{body}}
	default:
		return m.join(n, rows, around)
	}
	for _, c := range *rows {
		if c.alias == alias {
			return tree, api.TwoTables
		}
	}
	if len(*rows)+len(columns) > 500 {
		return tree, api.TooLarge
	}
	for _, c := range columns {
		*rows = append(*rows, modelColumn{alias, c.name, c.kind})
	}
	return tree, api.Done
}

func (m model) join(n api.Node, rows *[]modelColumn, around []modelScope) (api.Node, api.State) {
	from := len(*rows)
	tree := api.Node{Op: n.Op}
	for _, side := range n.L[:2] {
		x, state := m.table(side, rows, around)
		if state != api.Done {
			return tree, state
		}
		tree.L = append(tree.L, x)
	}
	tree.N = int64(len(*rows) - from)
	if n.Op == "cross" {
		return tree, api.Done
	}
	x, state := m.condition(n.L[2], inner(modelScope{columns: (*rows)[from:]}, around))
	tree.L = append(tree.L, x)
	return tree, state
}

func (m model) items(n api.Node, scope modelScope, around []modelScope) (tree api.Node, columns []modelColumn, state api.State) {
	tree.Op = "items"
	put := func(name string, x api.Node, kind api.Kind) {
		tree.L = append(tree.L, api.Node{Op: "item", S: name, L: []api.Node{x}})
		columns = append(columns, modelColumn{name: name, kind: kind})
	}
	for _, item := range n.L {
		if item.Op == "item" {
			x, kind, state := m.expr(item.L[0], inner(scope, around))
			if state != api.Done {
				return tree, nil, state
			}
			name := "?"
			if item.L[0].Op == "col" {
				name = item.L[0].S
			}
			if item.S != "" {
				name = item.S
			}
			put(name, x, kind)
			continue
		}
		if scope.grouped {
			return tree, nil, api.Grouping
		}
		there := item.S == ""
		for at, c := range scope.columns {
			if item.S == "" || item.S == c.alias {
				there = true
				put(c.name, api.Node{Op: "slot", N: int64(at)}, c.kind)
			}
		}
		if !there {
			return tree, nil, api.NoTable
		}
	}
	return tree, columns, api.Done
}

func (m model) condition(n api.Node, scopes []modelScope) (api.Node, api.State) {
	x, kind, state := m.expr(n, scopes)
	if state == api.Done && kind != api.Bool && kind != api.Null {
		state = api.Mismatch
	}
	return x, state
}

func modelFind(n api.Node, scopes []modelScope) (int64, api.Kind, api.State) {
	is := func(c modelColumn) bool { return c.name == n.S && (len(n.L) == 0 || c.alias == n.L[0].S) }
	for i, s := range scopes {
		var at []int
		hides := false
		for j, c := range s.columns {
			if is(c) {
				at = append(at, j)
			}
			hides = hides || len(n.L) > 0 && c.alias == n.L[0].S
		}
		if len(at) > 1 && len(n.L) == 0 {
			return 0, 0, api.Ambiguous
		}
		if len(at) > 0 {
			return int64(1000*i + at[0]), s.columns[at[0]].kind, api.Done
		}
		for _, c := range s.rows {
			if is(c) {
				return 0, 0, api.Grouping
			}
		}
		if hides {
			return 0, 0, api.NoColumn
		}
	}
	return 0, 0, api.NoColumn
}

// modelAsks: of which kind an operation's parts must be, and of which it is. What is not here has a rule of its own.
var modelAsks = map[string][2]api.Kind{
	"+": {api.Num, api.Num}, "-": {api.Num, api.Num}, "*": {api.Num, api.Num}, "/": {api.Num, api.Num}, "neg": {api.Num, api.Num}, "sum": {api.Num, api.Num},
	"||": {api.Text, api.Text}, "like": {api.Text, api.Bool}, "and": {api.Bool, api.Bool}, "or": {api.Bool, api.Bool}, "not": {api.Bool, api.Bool},
	"num": {api.Num, api.Num}, "text": {api.Text, api.Text}, "bool": {api.Bool, api.Bool}, "null": {api.Null, api.Null},
}

func (m model) expr(n api.Node, scopes []modelScope) (tree api.Node, kind api.Kind, state api.State) {
	switch n.Op {
	case "col":
		at, kind, state := modelFind(n, scopes)
		return api.Node{Op: "slot", N: at}, kind, state
	case "type":
		return n, api.Null, api.Done
	case "select", "union", "except", "intersect":
		// Its kind says how many columns it has; kinds that are none stand for other numbers than one.
		body, columns, state := m.body(n, scopes)
		if len(columns) == 1 {
			return body, columns[0].kind, state
		}
		return body, -1, state
	}
	total := n.Op == "count*" || n.Op == "count" || n.Op == "sum" || n.Op == "min" || n.Op == "max"
	within := scopes
	if total && scopes[0].grouped {
		within = inner(modelScope{columns: scopes[0].rows}, scopes[1:])
	}
	tree = api.Node{Op: n.Op, S: n.S, N: n.N}
	var kinds []api.Kind
	for _, part := range n.L {
		x, kind, state := m.expr(part, within)
		if state != api.Done {
			return tree, 0, state
		}
		tree.L = append(tree.L, x)
		kinds = append(kinds, kind)
	}
	if total && !scopes[0].grouped {
		return tree, 0, api.Grouping
	}
	kind, state = modelKind(n, tree, kinds)
	if state == api.Done && total {
		*scopes[0].totals = append(*scopes[0].totals, tree)
		tree = api.Node{Op: "slot", N: int64(len(scopes[0].columns) + len(*scopes[0].totals) - 1)}
	}
	// The kind of a WHEN is two kinds, of which its CASE asks.
	if n.Op == "when" && state == api.Done {
		kind = 10*kinds[0] + kinds[1]
	}
	return tree, kind, state
}

func modelKind(n, tree api.Node, kinds []api.Kind) (api.Kind, api.State) {
	if ask, is := modelAsks[n.Op]; is {
		for _, k := range kinds {
			if k != api.Null && k != ask[0] {
				return 0, api.Mismatch
			}
		}
		return ask[1], api.Done
	}
	pairs := func(with api.Kind, others []api.Kind, kind api.Kind) (api.Kind, api.State) {
		for _, k := range others {
			if _, is := modelTogether(with, k); !is {
				return 0, api.Mismatch
			}
		}
		return kind, api.Done
	}
	switch n.Op {
	case "=", "<>", "<", "<=", ">", ">=", "between":
		return pairs(kinds[0], kinds[1:], api.Bool)
	case "is":
		if n.S == "null" {
			return api.Bool, api.Done
		}
		return pairs(api.Bool, kinds, api.Bool)
	case "in", "any", "all":
		if (n.Op != "in" || n.S == "query") && kinds[1] < 0 {
			return 0, api.Syntax
		}
		return pairs(kinds[0], kinds[1:], api.Bool)
	case "exists":
		return api.Bool, api.Done
	case "scalar":
		if kinds[0] < 0 {
			return 0, api.Syntax
		}
		return kinds[0], api.Done
	case "count*", "count":
		return api.Num, api.Done
	case "min", "max":
		return kinds[0], api.Done
	case "nullif":
		return pairs(kinds[0], kinds[1:], kinds[0])
	case "when":
		return 0, api.Done
	case "cast":
		bases := map[string]api.Base{"smallint": api.Small, "integer": api.Integer, "bigint": api.Big, "char": api.Char, "varchar": api.Varchar, "boolean": api.Boolean}
		to := types.KindOf(api.Type{Base: bases[n.L[0].S], Len: int(n.L[0].N)})
		if to == api.Null || kinds[1]+to == api.Num+api.Bool && kinds[1]*to == api.Num*api.Bool {
			return 0, api.Mismatch
		}
		return to, api.Done
	case "case":
		for at, k := range kinds[:len(kinds)-1] {
			if condition := k / 10; condition != api.Null && condition != api.Bool {
				return 0, api.Mismatch
			}
			kinds[at] = k % 10
		}
		fallthrough
	case "coalesce":
		kind := api.Null
		for _, k := range kinds {
			var is bool
			if kind, is = modelTogether(kind, k); !is {
				return 0, api.Mismatch
			}
		}
		return kind, api.Done
	}
	panic("no such tree: " + n.Op)
}

// modelSyntax is whether a condition has what a Check may not have.
func modelSyntax(n api.Node) bool {
	switch n.Op {
	case "select", "union", "except", "intersect", "count*", "count", "sum", "min", "max":
		return true
	}
	for _, part := range n.L {
		if modelSyntax(part) {
			return true
		}
	}
	return false
}

// Random queries, right and wrong ones, are bound as the model binds them, and what was handed in stays as it was.
func TestQueriesAgainstModel(t *testing.T) {
	l := schema(t)
	g := &maker{r: rand.New(rand.NewSource(161))}
	met := map[api.State]int{}
	unread := 0
	for range 20000 {
		text := g.query()
		n, state := parse.Parse(text)
		if state != api.Done {
			unread++
			continue
		}
		handed := roomyTree(n)
		tree, columns, state := asked(t, l, handed)
		met[state]++
		wantTree, wantColumns, want := model{l}.query(n)
		if state != want || state == api.Done && (!sameTree(tree, wantTree) || !reflect.DeepEqual(columns, wantColumns)) {
			t.Fatalf("P16.1: %s:\n%s %s %v, not\n%s %s %v", text, state, show(tree), columns, want, show(wantTree), wantColumns)
		}
		if why := illBound(tree); state == api.Done && why != "" {
			t.Fatalf("P16.2: %s: %s: %s", text, why, show(tree))
		}
		if !sameTree(handed, n) || !untouched(handed) {
			t.Fatalf("P2: %s: the tree that was handed in was written into", text)
		}
	}
	for _, state := range []api.State{api.Done, api.Syntax, api.Ambiguous, api.NoColumn, api.Grouping, api.Mismatch, api.NoTable, api.TwoTables} {
		if met[state] < 100 {
			t.Errorf("%s was met %d times alone: %v", state, met[state], met)
		}
	}
	t.Logf("states met: %v; no statements: %d", met, unread)
	if met[api.Done] < 5000 || unread > 5000 {
		t.Errorf("of the queries %d alone are right", met[api.Done])
	}
}

func TestExprsAgainstModel(t *testing.T) {
	l := schema(t)
	x := table(t, l, "t")
	g := &maker{r: rand.New(rand.NewSource(162))}
	row := frame{columns: []named{{"t", "a", api.Num}, {"t", "b", api.Text}, {"t", "c", api.Bool}}}
	met := map[api.State]int{}
	for range 12000 {
		text := g.expr(api.Kind(g.r.Intn(4)), 1+g.r.Intn(4), []frame{row})
		n, state := parse.Parse("delete from t where " + text)
		if state != api.Done {
			continue
		}
		n = n.L[0].L[0]
		scope := modelScope{}
		for _, c := range row.columns {
			scope.columns = append(scope.columns, modelColumn{c.alias, c.name, c.kind})
		}
		wantTree, wantKind, want := model{l}.expr(n, []modelScope{scope})
		handed := roomyTree(n)
		tree, kind, state := Expr(l, x, handed)
		met[state]++
		if state != want || state == api.Done && (!sameTree(tree, wantTree) || kind != wantKind) || state != api.Done && (!isNothing(tree) || kind != api.Null) {
			t.Fatalf("P16.1: Expr: %s:\n%s %s %d, not\n%s %s %d", text, state, show(tree), kind, want, show(wantTree), wantKind)
		}
		if why := illBoundExpr(tree, 3); state == api.Done && why != "" {
			t.Fatalf("P16.2: %s: %s: %s", text, why, show(tree))
		}
		wantTree, want = model{}.condition(n, []modelScope{scope})
		if modelSyntax(n) {
			want = api.Syntax
		}
		tree, state = Check(x, handed)
		if state != want || state == api.Done && !sameTree(tree, wantTree) || state != api.Done && !isNothing(tree) {
			t.Fatalf("P16.1: Check: %s:\n%s %s, not\n%s %s", text, state, show(tree), want, show(wantTree))
		}
		if !sameTree(handed, n) || !untouched(handed) {
			t.Fatalf("P2: %s: the tree that was handed in was written into", text)
		}
	}
	if met[api.Done] < 2000 || met[api.Grouping] < 100 || met[api.Mismatch] < 100 || met[api.NoColumn] < 100 {
		t.Errorf("states met: %v", met)
	}
}
