// Package value is layer 1: SQL's values, how they compare, the three truths, whole numbers and texts. See shared/doc/01-value.md.
package value

import (
	"cmp"
	"strings"

	"stile/api"
)

// Right tells whether a value may be: its kind is known, and no field beside its kind's own is set.
func Right(v api.Value) bool {
	used := api.Value{Kind: v.Kind}
	switch v.Kind {
	case api.Null:
	case api.Num:
		used.N = v.N
	case api.Text:
		used.S = v.S
	case api.Bool:
		used.B = v.B
	default:
		return false
	}
	return v == used
}

// Order is how two values stand: -1, 0 or 1. Null is below all else, then numbers, texts, truth values.
func Order(a, b api.Value) int {
	// The kinds' numbers rise in the order in which the kinds stand.
	if a.Kind != b.Kind {
		return cmp.Compare(a.Kind, b.Kind)
	}
	switch a.Kind {
	case api.Num:
		return cmp.Compare(a.N, b.N)
	case api.Text:
		return cmp.Compare(words(a.S), words(b.S))
	case api.Bool:
		return orderBools(a.B, b.B)
	}
	return 0
}

// words is a text without the blanks at its end: they do not count when texts are compared.
func words(s string) string {
	return strings.TrimRight(s, " ")
}

func orderBools(a, b bool) int {
	switch {
	case a == b:
		return 0
	case b:
		return -1
	}
	return 1
}

// Test is a comparison's truth, by one of the signs = <> < <= > >=.
func Test(op string, a, b api.Value) (api.Truth, api.State) {
	is, known := holds(op, Order(a, b))
	switch {
	case !known:
		return api.Unknown, api.Syntax
	case a.Kind == api.Null || b.Kind == api.Null:
		return api.Unknown, api.Done
	case a.Kind != b.Kind:
		return api.Unknown, api.Mismatch
	case is:
		return api.True, api.Done
	}
	return api.False, api.Done
}

// holds tells whether a sign holds of values that stand so, and whether it is a sign of comparison at all.
func holds(op string, order int) (is, known bool) {
	switch op {
	case "=":
		return order == 0, true
	case "<>":
		return order != 0, true
	case "<":
		return order < 0, true
	case "<=":
		return order <= 0, true
	case ">":
		return order > 0, true
	case ">=":
		return order >= 0, true
	}
	return false, false
}

// Of is a value's truth; null's is Unknown.
func Of(v api.Value) (api.Truth, api.State) {
	switch v.Kind {
	case api.Null:
		return api.Unknown, api.Done
	case api.Bool:
		if v.B {
			return api.True, api.Done
		}
		return api.False, api.Done
	}
	return api.Unknown, api.Mismatch
}

// Back is a truth's value; Unknown's is null.
func Back(t api.Truth) api.Value {
	switch t {
	case api.True:
		return api.Value{Kind: api.Bool, B: true}
	case api.False:
		return api.Value{Kind: api.Bool}
	}
	return api.Value{}
}

// truth is Unknown in place of a number that is no truth.
func truth(t api.Truth) api.Truth {
	if t == api.False || t == api.True {
		return t
	}
	return api.Unknown
}

// Not is the other truth; Unknown stays.
func Not(a api.Truth) api.Truth {
	switch a {
	case api.False:
		return api.True
	case api.True:
		return api.False
	}
	return api.Unknown
}

// And is the lesser truth.
func And(a, b api.Truth) api.Truth {
	return min(truth(a), truth(b))
}

// Or is the greater truth.
func Or(a, b api.Truth) api.Truth {
	return max(truth(a), truth(b))
}
