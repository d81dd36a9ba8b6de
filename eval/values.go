package eval

import (
	"stile/api"
	"stile/catalog"
	"stile/types"
	"stile/value"
)

// operation is what an expression comes to, which has its parts.
func (a *asking) operation(n api.Node) api.Value {
	switch n.Op {
	case "slot":
		return a.slot(n.N)
	case "num":
		return api.Value{Kind: api.Num, N: n.N}
	case "text":
		return api.Value{Kind: api.Text, S: n.S}
	case "bool":
		return api.Value{Kind: api.Bool, B: n.N != 0}
	case "null":
		return api.Value{}
	case "+":
		return a.ofBoth(n, value.Add)
	case "-":
		return a.ofBoth(n, value.Sub)
	case "*":
		return a.ofBoth(n, value.Mul)
	case "/":
		return a.ofBoth(n, value.Div)
	case "||":
		return a.ofBoth(n, value.Concat)
	case "neg":
		return must(value.Neg(a.value(n.L[0])))
	case "case":
		return a.choice(n)
	case "coalesce":
		return a.coalesce(n)
	case "nullif":
		return a.nullif(n)
	case "cast":
		return a.cast(n)
	case "scalar":
		return a.scalar(n)
	}
	return value.Back(a.condition(n))
}

// slotsOfScope is how far apart two scopes are in a slot's number.
const slotsOfScope = 1000

func (a *asking) slot(n int64) api.Value {
	scope, place := n/slotsOfScope, n%slotsOfScope
	if n < 0 || scope >= int64(len(a.rows)) {
		return api.Value{}
	}
	row := a.rows[scope]
	if place >= int64(len(row)) {
		return api.Value{}
	}
	return row[place]
}

func (a *asking) both(n api.Node) (first, second api.Value) {
	first = a.value(n.L[0])
	second = a.value(n.L[1])
	return first, second
}

func (a *asking) ofBoth(n api.Node, operation func(x, y api.Value) (api.Value, api.State)) api.Value {
	return must(operation(a.both(n)))
}

func (a *asking) choice(n api.Node) api.Value {
	last := len(n.L) - 1
	for _, when := range n.L[:last] {
		need(when.Op == "when" && len(when.L) == 2, api.Syntax)
		if a.truth(when.L[0]) == api.True {
			return a.value(when.L[1])
		}
	}
	return a.value(n.L[last])
}

func (a *asking) coalesce(n api.Node) api.Value {
	for _, part := range n.L {
		if v := a.value(part); v.Kind != api.Null {
			return v
		}
	}
	return api.Value{}
}

func (a *asking) nullif(n api.Node) api.Value {
	first, second := a.both(n)
	if must(value.Test("=", first, second)) == api.True {
		return api.Value{}
	}
	return first
}

func (a *asking) cast(n api.Node) api.Value {
	wanted := n.L[0]
	need(wanted.Op == "type" && len(wanted.L) == 0, api.Syntax)
	return must(types.Cast(a.value(n.L[1]), catalog.TypeOf(wanted)))
}
