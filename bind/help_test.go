package bind

import (
	"reflect"
	"slices"
	"strconv"
	"strings"
	"testing"

	"stile/api"
	"stile/catalog"
	"stile/parse"
)

func read(t *testing.T, text string) api.Node {
	t.Helper()
	n, state := parse.Parse(text)
	if state != api.Done {
		t.Fatalf("no statement: %s: %s", text, state)
	}
	return n
}

// condition is the tree of an expression.
func condition(t *testing.T, text string) api.Node {
	t.Helper()
	return read(t, "delete from t where "+text).L[0].L[0]
}

func schemaOf(t *testing.T, texts ...string) []api.Table {
	t.Helper()
	var l []api.Table
	for _, text := range texts {
		x, state := catalog.Define(l, read(t, text))
		if state != api.Done {
			t.Fatalf("no table: %s: %s", text, state)
		}
		l = catalog.With(l, x)
	}
	return l
}

// schema has columns of all kinds: n numbers, x texts, b truth values.
func schema(t *testing.T) []api.Table {
	t.Helper()
	return schemaOf(t,
		"create table t (a int primary key, b char(3), c boolean)",
		"create table u (a int primary key, d bigint)",
		"create table v (e smallint primary key, f varchar(9), g boolean, h int)",
		"create table w ("+numbered(12, "w# int")+", primary key (w1))",
	)
}

func table(t *testing.T, l []api.Table, name string) api.Table {
	t.Helper()
	x, is := catalog.Find(l, name)
	if !is {
		t.Fatalf("no table %s", name)
	}
	return x
}

// numbered is n texts with commas between, `#` being the numbers from 1 on.
func numbered(n int, text string) string {
	var all []string
	for i := range n {
		all = append(all, strings.ReplaceAll(text, "#", strconv.Itoa(i+1)))
	}
	return strings.Join(all, ", ")
}

// show is a tree as a text: its Op, its S and N if they are something, its parts.
func show(n api.Node) string {
	text := n.Op
	if n.S != "" {
		text += " " + n.S
	}
	if n.N != 0 || n.Op == "slot" || n.Op == "num" || n.Op == "key" {
		text += " " + strconv.FormatInt(n.N, 10)
	}
	if len(n.L) == 0 {
		return text
	}
	return text + " (" + showAll(n.L) + ")"
}

func showAll(l []api.Node) string {
	var parts []string
	for _, n := range l {
		parts = append(parts, show(n))
	}
	return strings.Join(parts, ", ")
}

// part is a part of a bound select: items, from, where, group, having, totals, grouped.
func part(t *testing.T, selection api.Node, op string) api.Node {
	t.Helper()
	at := slices.Index([]string{"items", "from", "where", "group", "having", "totals", "grouped"}, op)
	if selection.Op != "select" || len(selection.L) != 7 || selection.L[at].Op != op {
		t.Fatalf("P16.1: B1: no bound select: %s", show(selection))
	}
	return selection.L[at]
}

// asked is what Query answers; what is beside a state that is not Done is nothing.
func asked(t *testing.T, l []api.Table, n api.Node) (api.Node, []api.Column, api.State) {
	t.Helper()
	tree, columns, state := Query(l, n)
	if state != api.Done && (!isNothing(tree) || len(columns) > 0) {
		t.Errorf("P16.1: B1: %s, and beside it %s, %v", state, show(tree), columns)
	}
	return tree, columns, state
}

func isNothing(n api.Node) bool {
	return n.Op == "" && n.S == "" && n.N == 0 && len(n.L) == 0
}

// queryIs tells a fault, if a query is not answered with a state.
func queryIs(t *testing.T, l []api.Table, text string, want api.State) api.Node {
	t.Helper()
	tree, _, state := asked(t, l, read(t, text))
	if state != want {
		t.Errorf("P16.1: %s: %s, not %s", text, state, want)
	}
	if state == api.Done {
		if why := illBound(tree); why != "" {
			t.Errorf("P16.2: %s: %s: %s", text, why, show(tree))
		}
	}
	return tree
}

// partIs tells a fault, if a part of a query's select is not bound so.
func partIs(t *testing.T, l []api.Table, text, op, want string) {
	t.Helper()
	tree := queryIs(t, l, text, api.Done)
	if len(tree.L) == 0 {
		return
	}
	if got := show(part(t, tree.L[0], op)); got != want {
		t.Errorf("P16.1: B1: %s: %s, not %s", text, got, want)
	}
}

// columnsAre tells a fault, if a query's columns are not these: each a name, and n, x, b or ? for its kind.
func columnsAre(t *testing.T, l []api.Table, text, want string) {
	t.Helper()
	_, columns, state := asked(t, l, read(t, text))
	var all []string
	for _, c := range columns {
		if c.Type.Len != 0 || c.NotNull {
			t.Errorf("P16.1: B1: %s: %+v is more than a name and a Base", text, c)
		}
		all = append(all, c.Name+" "+baseLetter(c.Type.Base))
	}
	if got := strings.Join(all, ", "); got != want || state != api.Done {
		t.Errorf("P16.1: B1: %s: %s, columns %s, not %s", text, state, got, want)
	}
}

func baseLetter(b api.Base) string {
	switch b {
	case api.Big:
		return "n"
	case api.Varchar:
		return "x"
	case api.Boolean:
		return "b"
	case api.NoType:
		return "?"
	}
	return "base " + strconv.Itoa(int(b))
}

// exprIs tells a fault, if an expression over t's row is not answered so.
func exprIs(t *testing.T, l []api.Table, x api.Table, text string, want api.State, kind api.Kind) api.Node {
	t.Helper()
	tree, is, state := Expr(l, x, condition(t, text))
	if state != want || is != kind {
		t.Errorf("P16.1: Expr: %s: %s of kind %d, not %s of kind %d", text, state, is, want, kind)
	}
	if state != api.Done && !isNothing(tree) {
		t.Errorf("P16.1: Expr: %s: %s beside %s", text, show(tree), state)
	}
	if why := illBoundExpr(tree, len(x.Columns)); state == api.Done && why != "" {
		t.Errorf("P16.2: Expr: %s: %s: %s", text, why, show(tree))
	}
	return tree
}

func checkIs(t *testing.T, x api.Table, text string, want api.State) api.Node {
	t.Helper()
	tree, state := Check(x, condition(t, text))
	if state != want {
		t.Errorf("P16.1: Check: %s: %s, not %s", text, state, want)
	}
	if state != api.Done && !isNothing(tree) {
		t.Errorf("P16.1: Check: %s: %s beside %s", text, show(tree), state)
	}
	return tree
}

// deepTree is a copy of a tree that shares nothing with it; what is without elements is nil.
func deepTree(n api.Node) api.Node {
	return api.Node{Op: n.Op, S: n.S, N: n.N, L: deepTrees(n.L)}
}

func deepTrees(l []api.Node) []api.Node {
	var out []api.Node
	for _, n := range l {
		out = append(out, deepTree(n))
	}
	return out
}

func sameTree(a, b api.Node) bool {
	return reflect.DeepEqual(deepTree(a), deepTree(b))
}

// mark is what stands behind the length of each list that is handed in.
const mark = "behind"

// roomyTree is a copy of a tree, and behind each of its lists an element more.
func roomyTree(n api.Node) api.Node {
	parts := make([]api.Node, len(n.L)+1)
	for i, part := range n.L {
		parts[i] = roomyTree(part)
	}
	parts[len(n.L)].Op = mark
	n.L = parts[:len(n.L)]
	return n
}

func untouched(n api.Node) bool {
	all := n.L[:len(n.L)+1]
	last := all[len(n.L)]
	if last.Op != mark || last.S != "" || last.N != 0 || last.L != nil {
		return false
	}
	return !slices.ContainsFunc(n.L, func(part api.Node) bool { return !untouched(part) })
}
