package parse

import "stile/api"

func (p *parser) expr() api.Node {
	return p.chain(p.conjunction, func() (api.Node, bool) { return node("or", ""), p.took("or") })
}

func (p *parser) conjunction() api.Node {
	return p.chain(p.negation, func() (api.Node, bool) { return node("and", ""), p.took("and") })
}

func (p *parser) negation() api.Node {
	if p.took("not") {
		return node("not", "", p.negation())
	}
	return p.test()
}

// test is a sum, and perhaps one test of it: no more than one, so that a = b = c is none.
func (p *parser) test() api.Node {
	sum := p.sum()
	if sign, is := p.oneOf(api.Sign, "=", "<>", "<", "<=", ">", ">="); is {
		return p.comparison(sum, sign)
	}
	if p.took("is") {
		turned := p.took("not")
		return turnedAround(turned, p.isTest(sum))
	}
	turned := p.took("not")
	tree, is := p.wordTest(sum)
	switch {
	case is:
		return turnedAround(turned, tree)
	case turned:
		panic(noStatement{})
	}
	return sum
}

func turnedAround(turned bool, tree api.Node) api.Node {
	if turned {
		return node("not", "", tree)
	}
	return tree
}

func (p *parser) comparison(sum api.Node, sign string) api.Node {
	switch {
	case p.took("any"), p.took("some"):
		return node("any", sign, sum, inParens(p, p.body))
	case p.took("all"):
		return node("all", sign, sum, inParens(p, p.body))
	}
	return node(sign, "", sum, p.sum())
}

func (p *parser) isTest(sum api.Node) api.Node {
	what, is := p.oneOf(api.Word, "null", "true", "false", "unknown")
	if !is {
		panic(noStatement{})
	}
	return node("is", what, sum)
}

// wordTest is a test that NOT may stand ahead of, if there is one.
func (p *parser) wordTest(sum api.Node) (api.Node, bool) {
	switch {
	case p.took("between"):
		low := p.sum()
		p.need("and")
		return node("between", "", sum, low, p.sum()), true
	case p.took("like"):
		return node("like", "", sum, p.sum()), true
	case p.took("in"):
		if p.opensBody() {
			return node("in", "query", sum, inParens(p, p.body)), true
		}
		return node("in", "", append([]api.Node{sum}, p.listInParens(p.expr)...)...), true
	}
	return api.Node{}, false
}

func (p *parser) sum() api.Node {
	return p.chain(p.product, func() (api.Node, bool) { return p.signLink("+", "-", "||") })
}

func (p *parser) product() api.Node {
	return p.chain(p.factor, func() (api.Node, bool) { return p.signLink("*", "/") })
}

func (p *parser) signLink(of ...string) (api.Node, bool) {
	op, is := p.oneOf(api.Sign, of...)
	return node(op, ""), is
}

func (p *parser) factor() api.Node {
	if p.tookSign("-") {
		return node("neg", "", p.factor())
	}
	return p.operand()
}

func (p *parser) operand() api.Node {
	if p.at == len(p.tokens) {
		panic(noStatement{})
	}
	switch next := p.tokens[p.at]; next.Kind {
	case api.Number:
		return api.Node{Op: "num", N: p.number()}
	case api.String:
		return node("text", p.take(api.String).S)
	case api.Sign:
		if p.opensBody() {
			return node("scalar", "", inParens(p, p.body))
		}
		return inParens(p, p.expr)
	}
	return p.wordOperand()
}

// wordOperand is an operand that begins with a word.
func (p *parser) wordOperand() api.Node {
	switch {
	case p.took("true"):
		return api.Node{Op: "bool", N: 1}
	case p.took("false"):
		return node("bool", "")
	case p.took("null"):
		return node("null", "")
	case p.took("exists"):
		return node("exists", "", inParens(p, p.body))
	case p.took("case"):
		return p.caseOf()
	case p.took("cast"):
		return inParens(p, p.cast)
	case p.took("coalesce"):
		return node("coalesce", "", p.listInParens(p.expr)...)
	case p.took("nullif"):
		return inParens(p, p.nullif)
	}
	if op, is := p.oneOf(api.Word, "count", "sum", "min", "max"); is {
		return inParens(p, func() api.Node { return p.total(op) })
	}
	return p.column()
}

func (p *parser) column() api.Node {
	name := p.name()
	if p.tookSign(".") {
		return node("col", p.name(), node("of", name))
	}
	return node("col", name)
}

// caseOf is what stands behind CASE. What each WHEN is held against is one tree, whose parts all of these have: copies of it, nested in one another, could be more than memory holds.
func (p *parser) caseOf() api.Node {
	condition := p.expr
	if !p.stands(0, api.Word, "when") {
		held := p.expr()
		condition = func() api.Node { return node("=", "", held, p.expr()) }
	}
	parts := []api.Node{p.when(condition)}
	for p.stands(0, api.Word, "when") {
		parts = append(parts, p.when(condition))
	}
	otherwise := node("null", "")
	if p.took("else") {
		otherwise = p.expr()
	}
	p.need("end")
	return node("case", "", append(parts, otherwise)...)
}

func (p *parser) when(condition func() api.Node) api.Node {
	p.need("when")
	asked := condition()
	p.need("then")
	return node("when", "", asked, p.expr())
}

func (p *parser) cast() api.Node {
	expr := p.expr()
	p.need("as")
	return node("cast", "", p.typeOf(), expr)
}

func (p *parser) nullif() api.Node {
	first := p.expr()
	p.needSign(",")
	return node("nullif", "", first, p.expr())
}

// total is what stands in the parentheses behind a total's word.
func (p *parser) total(op string) api.Node {
	if op == "count" && p.tookSign("*") {
		return node("count*", "")
	}
	distinct := p.distinct()
	return api.Node{Op: op, N: distinct, L: []api.Node{p.expr()}}
}
