package eval

import (
	"math"

	"stile/api"
)

// fits tells whether an expression is of a kind that can be asked, and has the parts that one of its kind must have.
func fits(n api.Node) bool {
	least, most := partsOf(n)
	return len(n.L) >= least && len(n.L) <= most
}

// partsOf is how many parts an expression must have at least, and at most. (No number is between those of what is no expression.)
func partsOf(n api.Node) (least, most int) {
	switch n.Op {
	case "slot", "num", "text", "bool", "null":
		return 0, 0
	case "neg", "not", "exists", "scalar":
		return 1, 1
	case "+", "-", "*", "/", "||", "=", "<>", "<", "<=", ">", ">=", "and", "or", "like", "nullif", "cast", "any", "all":
		return 2, 2
	case "between":
		return 3, 3
	case "coalesce":
		return 1, math.MaxInt
	case "case":
		return 2, math.MaxInt
	case "is":
		return partsOfIs(n.S)
	case "in":
		if isSearch(n) {
			return 2, 2
		}
		return 2, math.MaxInt
	}
	return 1, 0
}

func partsOfIs(s string) (least, most int) {
	switch s {
	case "null", "true", "false", "unknown":
		return 1, 1
	}
	return 1, 0
}

// isSearch tells whether IN asks a query, not a list.
func isSearch(n api.Node) bool {
	return n.S == "query"
}
