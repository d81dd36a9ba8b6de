package bind

import (
	"stile/api"
	"stile/catalog"
	"stile/types"
)

// expr is an expression, bound, and its kind. What is bound once in a scope is not bound there again: a tree may stand at more places than could be gone over. But a total is another one wherever it stands.
func (b *binder) expr(s *scope, n api.Node) (api.Node, api.Kind) {
	need(fits(n), api.Syntax)
	if len(n.L) == 0 {
		return b.operation(s, n)
	}
	here := occasion{s, n.Op, n.S, n.N, spanOf(n.L)}
	if known, is := b.known[here]; is {
		return known.tree, known.kind
	}
	ahead := len(s.totals)
	tree, kind := b.operation(s, n)
	if len(s.totals) == ahead {
		b.known[here] = bound{tree, kind}
	}
	return tree, kind
}

func (b *binder) operation(s *scope, n api.Node) (api.Node, api.Kind) {
	switch {
	case n.Op == "col":
		return s.find(n)
	case isTotal(n.Op):
		return b.total(s, n)
	case isSearch(n):
		return b.search(s, n)
	case n.Op == "case":
		return b.choice(s, n)
	case n.Op == "cast":
		return b.cast(s, n)
	}
	parts, kinds := b.exprs(s, n.L)
	return with(n, parts...), kindOf(n, kinds)
}

func (b *binder) exprs(s *scope, l []api.Node) ([]api.Node, []api.Kind) {
	var trees []api.Node
	var kinds []api.Kind
	for _, n := range l {
		tree, kind := b.expr(s, n)
		trees = append(trees, tree)
		kinds = append(kinds, kind)
	}
	return trees, kinds
}

// total is a total of a group's rows: its part is asked in each of them, and what it comes to is a column of the group.
func (b *binder) total(s *scope, n api.Node) (api.Node, api.Kind) {
	rows := s
	if s.rows != nil {
		rows = s.rows
	}
	parts, kinds := b.exprs(rows, n.L)
	need(s.rows != nil, api.Grouping)
	kind := totalKind(n.Op, kinds)
	return s.addTotal(with(n, parts...)), kind
}

// search asks a query, which is the last part; what its rows are held against stands ahead.
func (b *binder) search(s *scope, n api.Node) (api.Node, api.Kind) {
	last := len(n.L) - 1
	parts, kinds := b.exprs(s, n.L[:last])
	body, columns := b.body(s, n.L[last])
	kind := api.Bool
	if n.Op != "exists" {
		need(len(columns) == 1, api.Syntax)
		kind = columns[0].kind
	}
	for _, held := range kinds {
		together(held, kind)
		kind = api.Bool
	}
	return with(n, append(parts, body)...), kind
}

func (b *binder) choice(s *scope, n api.Node) (api.Node, api.Kind) {
	var parts []api.Node
	var conditions, values []api.Kind
	last := len(n.L) - 1
	for _, when := range n.L[:last] {
		need(when.Op == "when" && len(when.L) == 2, api.Syntax)
		both, kinds := b.exprs(s, when.L)
		parts = append(parts, with(when, both...))
		conditions = append(conditions, kinds[0])
		values = append(values, kinds[1])
	}
	otherwise, kind := b.expr(s, n.L[last])
	each(conditions, api.Bool)
	return with(n, append(parts, otherwise)...), alike(append(values, kind))
}

func (b *binder) cast(s *scope, n api.Node) (api.Node, api.Kind) {
	need(n.L[0].Op == "type", api.Syntax)
	tree, from := b.expr(s, n.L[1])
	wanted := catalog.TypeOf(n.L[0])
	need(types.Right(wanted), api.Mismatch)
	to := types.KindOf(wanted)
	need(!(from == api.Num && to == api.Bool) && !(from == api.Bool && to == api.Num), api.Mismatch)
	return with(n, with(n.L[0]), tree), to
}
