package parse

import "stile/api"

// element is a column of a table that is created, or what is said of all of them.
func (p *parser) element() api.Node {
	switch {
	case p.took("primary", "key"):
		return node("primary", "", p.names()...)
	case p.took("unique"):
		return node("unique", "", p.names()...)
	case p.took("check"):
		return p.check()
	case p.took("foreign", "key"):
		names := p.names()
		p.need("references")
		return node("foreign", p.name(), names...)
	}
	return p.columnOf()
}

// columnOf is a column of a table that is created: its type, its options.
func (p *parser) columnOf() api.Node {
	name := p.name()
	parts := []api.Node{p.typeOf()}
	for {
		option, is := p.option()
		if !is {
			return node("column", name, parts...)
		}
		parts = append(parts, option)
	}
}

func (p *parser) option() (api.Node, bool) {
	switch {
	case p.took("not", "null"):
		return node("notnull", ""), true
	case p.took("primary", "key"):
		return node("primary", ""), true
	case p.took("unique"):
		return node("unique", ""), true
	case p.took("check"):
		return p.check(), true
	case p.took("references"):
		return node("references", p.name()), true
	}
	return api.Node{}, false
}

func (p *parser) check() api.Node {
	return node("check", "", inParens(p, p.expr))
}

func (p *parser) typeOf() api.Node {
	switch {
	case p.took("smallint"):
		return node("type", "smallint")
	case p.took("integer"), p.took("int"):
		return node("type", "integer")
	case p.took("bigint"):
		return node("type", "bigint")
	case p.took("boolean"):
		return node("type", "boolean")
	case p.took("char"), p.took("character"):
		length := int64(1)
		if p.stands(0, api.Sign, "(") {
			length = inParens(p, p.number)
		}
		return api.Node{Op: "type", S: "char", N: length}
	}
	p.need("varchar")
	return api.Node{Op: "type", S: "varchar", N: inParens(p, p.number)}
}
