package bind

import "stile/api"

// together is what two kinds that go together are together.
func together(a, b api.Kind) api.Kind {
	need(a == b || a == api.Null || b == api.Null, api.Mismatch)
	if a == api.Null {
		return b
	}
	return a
}

// alike is what kinds are together, one with all ahead.
func alike(kinds []api.Kind) api.Kind {
	kind := api.Null
	for _, other := range kinds {
		kind = together(kind, other)
	}
	return kind
}

// each is a kind that all of these must go together with.
func each(kinds []api.Kind, kind api.Kind) api.Kind {
	for _, other := range kinds {
		together(kind, other)
	}
	return kind
}

// kindOf is the kind of an operation on parts of some kinds.
func kindOf(n api.Node, kinds []api.Kind) api.Kind {
	switch n.Op {
	case "null":
		return api.Null
	case "num", "+", "-", "*", "/", "neg":
		return each(kinds, api.Num)
	case "text", "||":
		return each(kinds, api.Text)
	case "bool", "and", "or", "not":
		return each(kinds, api.Bool)
	case "coalesce":
		return alike(kinds)
	case "nullif":
		alike(kinds)
		return kinds[0]
	case "like":
		each(kinds, api.Text)
	case "is":
		if n.S != "null" {
			each(kinds, api.Bool)
		}
	default:
		each(kinds[1:], kinds[0])
	}
	return api.Bool
}

// totalKind is the kind of a total of parts of some kinds.
func totalKind(op string, kinds []api.Kind) api.Kind {
	switch op {
	case "sum":
		return each(kinds, api.Num)
	case "min", "max":
		return kinds[0]
	}
	return api.Num
}
