package eval

import (
	"stile/api"
	"stile/value"
)

// truth is whether an expression holds.
func (a *asking) truth(n api.Node) api.Truth {
	return must(value.Of(a.value(n)))
}

// condition is the truth of an expression that comes to one, and has its parts.
func (a *asking) condition(n api.Node) api.Truth {
	switch n.Op {
	case "and":
		return a.joined(n, api.False, value.And)
	case "or":
		return a.joined(n, api.True, value.Or)
	case "not":
		return value.Not(a.truth(n.L[0]))
	case "is":
		return a.is(n)
	case "between":
		return a.between(n)
	case "like":
		return a.like(n)
	case "exists":
		return truthOf(len(a.ask(n.L[0])) > 0)
	case "any":
		return a.search(n, n.S, api.False, value.Or)
	case "all":
		return a.search(n, n.S, api.True, value.And)
	case "in":
		if isSearch(n) {
			return a.search(n, "=", api.False, value.Or)
		}
		return a.among(n)
	}
	first, second := a.both(n)
	return must(value.Test(n.Op, first, second))
}

// joined is both parts' truths, joined; if the first one is enough the second part is not asked.
func (a *asking) joined(n api.Node, enough api.Truth, join func(x, y api.Truth) api.Truth) api.Truth {
	first := a.truth(n.L[0])
	if first == enough {
		return first
	}
	return join(first, a.truth(n.L[1]))
}

func (a *asking) is(n api.Node) api.Truth {
	switch n.S {
	case "null":
		return truthOf(a.value(n.L[0]).Kind == api.Null)
	case "true":
		return truthOf(a.truth(n.L[0]) == api.True)
	case "false":
		return truthOf(a.truth(n.L[0]) == api.False)
	}
	return truthOf(a.truth(n.L[0]) == api.Unknown)
}

func (a *asking) between(n api.Node) api.Truth {
	middle, low := a.both(n)
	high := a.value(n.L[2])
	above := must(value.Test(">=", middle, low))
	return value.And(above, must(value.Test("<=", middle, high)))
}

func (a *asking) like(n api.Node) api.Truth {
	text, pattern := a.both(n)
	if text.Kind == api.Null || pattern.Kind == api.Null {
		return api.Unknown
	}
	need(text.Kind == api.Text && pattern.Kind == api.Text, api.Mismatch)
	return truthOf(value.Like(text.S, pattern.S))
}

// among is whether a value is in a list; behind one that it equals nothing is asked.
func (a *asking) among(n api.Node) api.Truth {
	held, found := a.value(n.L[0]), api.False
	for _, part := range n.L[1:] {
		found = value.Or(found, must(value.Test("=", held, a.value(part))))
		if found == api.True {
			break
		}
	}
	return found
}
