package parse

import "stile/api"

func (p *parser) query() api.Node {
	body := p.body()
	order := node("order", "")
	if p.took("order", "by") {
		order.L = p.list(p.key)
	}
	return node("query", "", body, order)
}

func (p *parser) key() api.Node {
	by := p.keyBy()
	if p.took("desc") {
		return node("key", "desc", by)
	}
	p.took("asc")
	return node("key", "asc", by)
}

func (p *parser) keyBy() api.Node {
	if p.atName() {
		return p.column()
	}
	return api.Node{Op: "num", N: p.number()}
}

func (p *parser) body() api.Node {
	return p.chain(p.term, func() (api.Node, bool) { return p.setLink("union", "except") })
}

func (p *parser) term() api.Node {
	return p.chain(p.simple, func() (api.Node, bool) { return p.setLink("intersect") })
}

// setLink is what puts two bodies together.
func (p *parser) setLink(of ...string) (api.Node, bool) {
	op, is := p.oneOf(api.Word, of...)
	if !is {
		return api.Node{}, false
	}
	return api.Node{Op: op, N: mark(p.took("all"))}, true
}

func (p *parser) simple() api.Node {
	if p.stands(0, api.Sign, "(") {
		return inParens(p, p.body)
	}
	p.need("select")
	distinct := p.distinct()
	items := node("items", "", p.list(p.item)...)
	p.need("from")
	from := node("from", "", p.list(p.table)...)
	where := p.clause("where")
	group := node("group", "")
	if p.took("group", "by") {
		group.L = p.list(p.column)
	}
	having := p.clause("having")
	return api.Node{Op: "select", N: distinct, L: []api.Node{items, from, where, group, having}}
}

// distinct is 1 behind DISTINCT, and 0 behind ALL, which may be left out.
func (p *parser) distinct() int64 {
	if p.took("distinct") {
		return 1
	}
	p.took("all")
	return 0
}

// clause is a word's tree, with the condition behind the word, or without parts if the word is left out.
func (p *parser) clause(word string) api.Node {
	if p.took(word) {
		return node(word, "", p.expr())
	}
	return node(word, "")
}

func (p *parser) item() api.Node {
	if p.tookSign("*") {
		return node("star", "")
	}
	if p.atName() && p.stands(1, api.Sign, ".") && p.stands(2, api.Sign, "*") {
		name := p.name()
		p.needSign(".")
		p.needSign("*")
		return node("star", name)
	}
	expr := p.expr()
	return node("item", p.alias(), expr)
}

func (p *parser) table() api.Node {
	ahead := p.joined()
	for {
		op, is := p.join()
		if !is {
			return ahead
		}
		parts := []api.Node{ahead, p.joined()}
		if op != "cross" {
			p.need("on")
			parts = append(parts, p.expr())
		}
		ahead = node(op, "", parts...)
	}
}

// join is how the next table is joined, if one is.
func (p *parser) join() (string, bool) {
	switch {
	case p.took("cross", "join"):
		return "cross", true
	case p.took("join"), p.took("inner", "join"):
		return "inner", true
	}
	side, is := p.oneOf(api.Word, "left", "right", "full")
	if is {
		p.took("outer")
		p.need("join")
	}
	return side, is
}

func (p *parser) joined() api.Node {
	if p.opensBody() {
		body := inParens(p, p.body)
		p.took("as")
		return node("derived", p.name(), body)
	}
	if p.stands(0, api.Sign, "(") {
		return inParens(p, p.table)
	}
	name := p.name()
	alias := p.alias()
	if alias == "" {
		alias = name
	}
	return node("table", name, node("as", alias))
}
