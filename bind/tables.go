package bind

import (
	"stile/api"
	"stile/catalog"
)

// table is what stands in FROM; its columns are put behind those that the rows have.
func (b *binder) table(rows *scope, n api.Node) api.Node {
	switch n.Op {
	case "table":
		need(len(n.L) == 1, api.Syntax)
		t, is := catalog.Find(b.schema, n.S)
		need(is, api.NoTable)
		rows.add(n.L[0].S, columnsOf(t))
		return api.Node{Op: "table", S: n.S, N: int64(len(t.Columns))}
	case "derived":
		need(len(n.L) == 1, api.Syntax)
		body, columns := b.body(rows.outer, n.L[0])
		rows.add(n.S, columns)
		return api.Node{Op: "derived", N: int64(len(columns)), L: []api.Node{body}}
	case "cross":
		need(len(n.L) == 2, api.Syntax)
		return b.join(rows, n)
	case "inner", "left", "right", "full":
		need(len(n.L) == 3, api.Syntax)
		return b.join(rows, n)
	}
	panic(fault{api.Syntax})
}

// join is two tables, perhaps on a condition, which sees the columns of both and no others of the rows.
func (b *binder) join(rows *scope, n api.Node) api.Node {
	first := len(rows.columns)
	parts := []api.Node{b.table(rows, n.L[0]), b.table(rows, n.L[1])}
	both := &scope{columns: rows.columns[first:], outer: rows.outer}
	for _, condition := range n.L[2:] {
		parts = append(parts, b.condition(both, condition))
	}
	return api.Node{Op: n.Op, N: int64(len(both.columns)), L: parts}
}
