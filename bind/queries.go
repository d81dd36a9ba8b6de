package bind

import "stile/api"

func (b *binder) query(n api.Node) (api.Node, []column) {
	need(n.Op == "query" && len(n.L) == 2 && n.L[1].Op == "order", api.Syntax)
	body, columns := b.body(nil, n.L[0])
	order := node("order")
	for _, key := range n.L[1].L {
		need(key.Op == "key" && len(key.L) == 1, api.Syntax)
		place := keyPlace(columns, key.L[0])
		order.L = append(order.L, api.Node{Op: "key", S: key.S, N: int64(place)})
	}
	return node("query", body, order), columns
}

// keyPlace is the place of the column by which rows are ordered.
func keyPlace(columns []column, by api.Node) int {
	if by.Op == "num" {
		need(by.N >= 1 && by.N <= int64(len(columns)), api.Syntax)
		return int(by.N - 1)
	}
	need(by.Op == "col", api.Syntax)
	called := nameOf(by)
	need(!called.ofTable, api.NoColumn)
	all := &scope{columns: columns}
	places := all.places(called)
	need(len(places) > 0, api.NoColumn)
	return places[0]
}

// body is a query without its order, in the scopes around it.
func (b *binder) body(outer *scope, n api.Node) (api.Node, []column) {
	switch n.Op {
	case "select":
		return b.selection(outer, n)
	case "union", "except", "intersect":
		return b.set(outer, n)
	}
	panic(fault{api.Syntax})
}

func (b *binder) set(outer *scope, n api.Node) (api.Node, []column) {
	need(len(n.L) == 2, api.Syntax)
	first, columns := b.body(outer, n.L[0])
	second, others := b.body(outer, n.L[1])
	need(len(columns) == len(others), api.Syntax)
	for at, other := range others {
		columns[at].kind = together(columns[at].kind, other.kind)
	}
	return with(n, first, second), columns
}

func (b *binder) selection(outer *scope, n api.Node) (api.Node, []column) {
	items, from := clause(n, 0, "items"), clause(n, 1, "from")
	where, group, having := clause(n, 2, "where"), clause(n, 3, "group"), clause(n, 4, "having")
	rows := &scope{outer: outer}
	tables := node("from")
	for _, table := range from.L {
		tables.L = append(tables.L, b.table(rows, table))
	}
	condition := b.conditions(rows, where)
	view, grouped := rows, node("grouped")
	if len(group.L) > 0 || len(having.L) > 0 || meets(items, isTotal) {
		view, grouped.N = &scope{outer: outer, rows: rows}, 1
	}
	keys := groupBy(rows, view, group)
	asked, columns := b.items(view, items)
	kept := b.conditions(view, having)
	return with(n, asked, tables, condition, keys, kept, node("totals", view.totals...), grouped), columns
}

// clause is a part of a select.
func clause(n api.Node, at int, op string) api.Node {
	need(at < len(n.L) && n.L[at].Op == op, api.Syntax)
	return n.L[at]
}

// conditions is WHERE or HAVING: it has one condition, or none.
func (b *binder) conditions(s *scope, n api.Node) api.Node {
	need(len(n.L) <= 1, api.Syntax)
	bound := node(n.Op)
	for _, condition := range n.L {
		bound.L = append(bound.L, b.condition(s, condition))
	}
	return bound
}

func (b *binder) condition(s *scope, n api.Node) api.Node {
	tree, kind := b.expr(s, n)
	need(kind == api.Bool || kind == api.Null, api.Mismatch)
	return tree
}

// groupBy is GROUP BY, whose columns become those of the group. They are looked for among the rows' alone: not in the scopes around them.
func groupBy(rows, group *scope, n api.Node) api.Node {
	bound := node("group")
	alone := &scope{columns: rows.columns}
	for _, col := range n.L {
		need(col.Op == "col", api.Syntax)
		key, _ := alone.find(col)
		bound.L = append(bound.L, key)
		group.columns = append(group.columns, rows.columns[key.N])
	}
	return bound
}

func (b *binder) items(s *scope, n api.Node) (api.Node, []column) {
	items := node("items")
	var columns []column
	for _, asked := range n.L {
		bound, found := b.item(s, asked)
		items.L = append(items.L, bound...)
		columns = append(columns, found...)
	}
	return items, columns
}

func (b *binder) item(s *scope, n api.Node) ([]api.Node, []column) {
	if n.Op == "star" {
		return star(s, n.S)
	}
	need(n.Op == "item" && len(n.L) == 1, api.Syntax)
	expr := n.L[0]
	tree, kind := b.expr(s, expr)
	called := n.S
	switch {
	case called != "":
	case expr.Op == "col":
		called = expr.S
	default:
		called = "?"
	}
	return []api.Node{{Op: "item", S: called, L: []api.Node{tree}}}, []column{{name: called, kind: kind}}
}

// star is all columns of a scope, or those of an alias.
func star(s *scope, alias string) ([]api.Node, []column) {
	need(s.rows == nil, api.Grouping)
	need(alias == "" || s.hasTable(alias), api.NoTable)
	var items []api.Node
	var columns []column
	for at, c := range s.columns {
		if alias == "" || c.table == alias {
			items = append(items, api.Node{Op: "item", S: c.name, L: []api.Node{slot(0, at)}})
			columns = append(columns, column{name: c.name, kind: c.kind})
		}
	}
	return items, columns
}
