package eval

import (
	"slices"

	"stile/api"
	"stile/value"
)

func total(op string, l []api.Value) api.Value {
	switch op {
	case "count*":
		return number(len(l))
	case "count":
		return number(len(known(l)))
	case "sum":
		return sum(known(l))
	case "min":
		return most(known(l), -1)
	case "max":
		return most(known(l), 1)
	}
	need(false, api.Syntax)
	return api.Value{}
}

func number(n int) api.Value {
	return api.Value{Kind: api.Num, N: int64(n)}
}

// known is those of some values that are not null.
func known(l []api.Value) []api.Value {
	var kept []api.Value
	for _, v := range l {
		if v.Kind != api.Null {
			kept = append(kept, v)
		}
	}
	return kept
}

// unlike is those of some values that are not equal to one ahead.
func unlike(l []api.Value) []api.Value {
	places := make([]int, len(l))
	for i := range places {
		places[i] = i
	}
	slices.SortStableFunc(places, func(i, j int) int { return value.Order(l[i], l[j]) })
	again := make([]bool, len(l))
	for i := 1; i < len(places); i++ {
		again[places[i]] = value.Order(l[places[i-1]], l[places[i]]) == 0
	}
	var kept []api.Value
	for i, v := range l {
		if !again[i] {
			kept = append(kept, v)
		}
	}
	return kept
}

func sum(l []api.Value) api.Value {
	if len(l) == 0 {
		return api.Value{}
	}
	whole := number(0)
	for _, v := range l {
		whole = must(value.Add(whole, v))
	}
	return whole
}

// most is the first of those values that no other one is beyond: above for 1, below for -1.
func most(l []api.Value, beyond int) api.Value {
	var best api.Value
	for i, v := range l {
		if i == 0 || value.Order(v, best) == beyond {
			best = v
		}
	}
	return best
}
