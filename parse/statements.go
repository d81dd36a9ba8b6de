package parse

import "stile/api"

// whole is the tree of all tokens.
func (p *parser) whole() api.Node {
	tree := p.statement()
	p.tookSign(";")
	if p.at < len(p.tokens) {
		panic(noStatement{})
	}
	return tree
}

func (p *parser) statement() api.Node {
	switch {
	case p.took("create", "table"):
		return node("create table", p.name(), p.listInParens(p.element)...)
	case p.took("create", "unique", "index"):
		return p.createIndex(1)
	case p.took("create", "index"):
		return p.createIndex(0)
	case p.took("drop", "table"):
		return node("drop table", p.name())
	case p.took("drop", "index"):
		return node("drop index", p.name())
	case p.took("insert", "into"):
		return p.insert()
	case p.took("update"):
		return p.update()
	case p.took("delete", "from"):
		return node("delete", p.name(), p.whose())
	case p.took("declare"):
		return p.declare()
	case p.took("open"):
		return node("open", p.name())
	case p.took("close"):
		return node("close", p.name())
	case p.took("fetch"):
		return p.fetch()
	}
	return p.endOrQuery()
}

// endOrQuery is a statement that begins, parts or ends a transaction, or else a query.
func (p *parser) endOrQuery() api.Node {
	switch {
	case p.took("commit"):
		return node("commit", "")
	case p.took("rollback", "to"):
		return p.savepoint("rollback to")
	case p.took("rollback"):
		return node("rollback", "")
	case p.took("savepoint"):
		return node("savepoint", p.name())
	case p.took("release"):
		return p.savepoint("release")
	case p.took("set", "transaction", "isolation", "level"):
		return api.Node{Op: "isolation", N: int64(p.level())}
	}
	return p.query()
}

func (p *parser) savepoint(op string) api.Node {
	p.took("savepoint")
	return node(op, p.name())
}

func (p *parser) level() api.Level {
	switch {
	case p.took("read", "uncommitted"):
		return api.ReadUncommitted
	case p.took("read", "committed"):
		return api.ReadCommitted
	case p.took("repeatable", "read"):
		return api.RepeatableRead
	}
	p.need("serializable")
	return api.Serializable
}

func (p *parser) createIndex(unique int64) api.Node {
	name := p.name()
	p.need("on")
	parts := []api.Node{node("on", p.name())}
	return api.Node{Op: "create index", S: name, N: unique, L: append(parts, p.names()...)}
}

func (p *parser) insert() api.Node {
	name := p.name()
	columns := node("columns", "")
	if p.stands(0, api.Sign, "(") && !p.opensBody() {
		columns.L = p.names()
	}
	if p.took("values") {
		return node("insert", name, columns, node("values", "", p.list(p.row)...))
	}
	return node("insert", name, columns, p.body())
}

func (p *parser) row() api.Node {
	return node("row", "", p.listInParens(p.expr)...)
}

func (p *parser) names() []api.Node {
	return p.listInParens(func() api.Node { return node("name", p.name()) })
}

func (p *parser) update() api.Node {
	name := p.name()
	p.need("set")
	parts := p.list(p.set)
	return node("update", name, append(parts, p.whose())...)
}

func (p *parser) set() api.Node {
	name := p.name()
	p.needSign("=")
	return node("set", name, p.expr())
}

func (p *parser) whose() api.Node {
	if p.took("where", "current", "of") {
		return node("current", p.name())
	}
	return p.clause("where")
}

func (p *parser) declare() api.Node {
	name := p.name()
	scroll := mark(p.took("scroll"))
	p.need("cursor", "for")
	query := p.query()
	return api.Node{Op: "declare", S: name, N: scroll, L: []api.Node{query, p.purpose()}}
}

// purpose is what a cursor is for, as it is said behind its query.
func (p *parser) purpose() api.Node {
	switch {
	case p.took("for", "read", "only"):
		return node("for", "read only")
	case p.took("for", "update"):
		return node("for", "update")
	}
	return node("for", "")
}

func (p *parser) fetch() api.Node {
	way := p.way()
	p.took("from")
	return node("fetch", p.name(), way)
}

func (p *parser) way() api.Node {
	if op, is := p.oneOf(api.Word, "next", "prior", "first", "last"); is {
		return node(op, "")
	}
	if op, is := p.oneOf(api.Word, "absolute", "relative"); is {
		return api.Node{Op: op, N: p.signed()}
	}
	return node("next", "")
}

func (p *parser) signed() int64 {
	if p.tookSign("-") {
		return -p.number()
	}
	return p.number()
}
