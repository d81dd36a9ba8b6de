package bind

import (
	"math"

	"stile/api"
)

func node(op string, parts ...api.Node) api.Node {
	return api.Node{Op: op, L: parts}
}

// with is a tree with other parts.
func with(n api.Node, parts ...api.Node) api.Node {
	return api.Node{Op: n.Op, S: n.S, N: n.N, L: parts}
}

func isTotal(op string) bool {
	switch op {
	case "count*", "count", "sum", "min", "max":
		return true
	}
	return false
}

// isSelect is whether a query begins here, or one of those that are put together.
func isSelect(op string) bool {
	return op == "select"
}

// isSearch tells whether an expression asks a query.
func isSearch(n api.Node) bool {
	switch n.Op {
	case "exists", "scalar", "any", "all":
		return true
	}
	return n.Op == "in" && n.S == "query"
}

// fits tells whether an expression has as many parts as Parse gives to one of its kind.
func fits(n api.Node) bool {
	least, most := 1, 0
	switch n.Op {
	case "num", "text", "bool", "null", "count*":
		least, most = 0, 0
	case "col":
		least, most = 0, 1
	case "neg", "not", "is", "exists", "scalar", "count", "sum", "min", "max":
		least, most = 1, 1
	case "+", "-", "*", "/", "||", "=", "<>", "<", "<=", ">", ">=", "and", "or", "like", "any", "all", "cast", "nullif":
		least, most = 2, 2
	case "between":
		least, most = 3, 3
	case "in":
		least, most = 2, math.MaxInt
		if n.S == "query" {
			most = 2
		}
	case "coalesce":
		least, most = 1, math.MaxInt
	case "case":
		least, most = 2, math.MaxInt
	}
	return len(n.L) >= least && len(n.L) <= most
}

// span is where a tree's parts lie, and how many they are. A tree may have one list of parts at very many places: it is told by its span that it was gone over.
type span struct {
	first *api.Node
	count int
}

func spanOf(parts []api.Node) span {
	return span{&parts[0], len(parts)}
}

// deepest is how many parts may stand in one another.
const deepest = 1 << 16

// depth is how deep some trees are; more than deepest, if a list of parts stands in itself.
func depth(trees []api.Node, known map[span]int) int {
	if len(trees) == 0 {
		return 0
	}
	here := spanOf(trees)
	if depth, is := known[here]; is {
		return depth
	}
	known[here] = deepest + 1
	most := 0
	for _, n := range trees {
		most = max(most, 1+depth(n.L, known))
	}
	known[here] = most
	return most
}

// meets tells whether a tree, or a part of it, is of a kind that is looked for. A select is met, but what is in it is its own.
func meets(n api.Node, wanted func(op string) bool) bool {
	return meetsIn([]api.Node{n}, wanted, map[span]int{})
}

func meetsIn(trees []api.Node, wanted func(op string) bool, seen map[span]int) bool {
	if len(trees) == 0 {
		return false
	}
	here := spanOf(trees)
	seen[here]++
	if seen[here] > 1 {
		return false
	}
	for _, n := range trees {
		if wanted(n.Op) || !isSelect(n.Op) && meetsIn(n.L, wanted, seen) {
			return true
		}
	}
	return false
}
