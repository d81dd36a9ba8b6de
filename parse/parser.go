package parse

import (
	"slices"

	"stile/api"
	"stile/lex"
)

// parser is a statement's tokens, and the place up to which they have been taken.
type parser struct {
	tokens []api.Token
	at     int
}

// node is a tree without a number.
func node(op, s string, parts ...api.Node) api.Node {
	return api.Node{Op: op, S: s, L: parts}
}

// mark is the number of a tree that says by 1 that something is so.
func mark(is bool) int64 {
	if is {
		return 1
	}
	return 0
}

// stands tells whether that word or sign stands so many places behind the next one.
func (p *parser) stands(behind int, kind api.TokenKind, s string) bool {
	at := p.at + behind
	return at < len(p.tokens) && p.tokens[at].Kind == kind && p.tokens[at].S == s
}

// took goes behind these words, if all of them are next, or stays.
func (p *parser) took(words ...string) bool {
	for i, word := range words {
		if !p.stands(i, api.Word, word) {
			return false
		}
	}
	p.at += len(words)
	return true
}

func (p *parser) need(words ...string) {
	if !p.took(words...) {
		panic(noStatement{})
	}
}

// oneOf goes behind the next word or sign, if it is one of these, and tells which.
func (p *parser) oneOf(kind api.TokenKind, of ...string) (string, bool) {
	if p.at == len(p.tokens) {
		return "", false
	}
	next := p.tokens[p.at]
	if next.Kind != kind || !slices.Contains(of, next.S) {
		return "", false
	}
	p.at++
	return next.S, true
}

func (p *parser) tookSign(sign string) bool {
	_, is := p.oneOf(api.Sign, sign)
	return is
}

func (p *parser) needSign(sign string) {
	if !p.tookSign(sign) {
		panic(noStatement{})
	}
}

func (p *parser) take(kind api.TokenKind) api.Token {
	if p.at == len(p.tokens) || p.tokens[p.at].Kind != kind {
		panic(noStatement{})
	}
	p.at++
	return p.tokens[p.at-1]
}

func (p *parser) number() int64 {
	return p.take(api.Number).N
}

func (p *parser) name() string {
	word := p.take(api.Word).S
	if lex.Reserved(word) {
		panic(noStatement{})
	}
	return word
}

func (p *parser) atName() bool {
	if p.at == len(p.tokens) {
		return false
	}
	next := p.tokens[p.at]
	return next.Kind == api.Word && !lex.Reserved(next.S)
}

// alias is a name that may be left out, and AS ahead of it too.
func (p *parser) alias() string {
	if p.took("as") || p.atName() {
		return p.name()
	}
	return ""
}

// opensBody tells whether the next "(" is a body's: no other place but this tells bodies from what else may stand in parentheses.
func (p *parser) opensBody() bool {
	count := 0
	for p.stands(count, api.Sign, "(") {
		count++
	}
	return count > 0 && p.stands(count, api.Word, "select")
}

// inParens is what stands in parentheses.
func inParens[T any](p *parser, inner func() T) T {
	p.needSign("(")
	taken := inner()
	p.needSign(")")
	return taken
}

// list is one part, and one more behind each comma.
func (p *parser) list(part func() api.Node) []api.Node {
	parts := []api.Node{part()}
	for p.tookSign(",") {
		parts = append(parts, part())
	}
	return parts
}

func (p *parser) listInParens(part func() api.Node) []api.Node {
	return inParens(p, func() []api.Node { return p.list(part) })
}

// chain is parts with links between them, from the left on: each link's tree has all that is ahead of it as its first part.
func (p *parser) chain(part func() api.Node, link func() (api.Node, bool)) api.Node {
	ahead := part()
	for {
		whole, is := link()
		if !is {
			return ahead
		}
		whole.L = []api.Node{ahead, part()}
		ahead = whole
	}
}
