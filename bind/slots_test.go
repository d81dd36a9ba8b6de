package bind

import (
	"slices"
	"strconv"

	"stile/api"
)

// What a bound tree must be, told by the tree alone: each slot is a place of its scope. widths are how many places the scopes have, the innermost one first.

// illBound tells what is wrong with a bound query, or nothing.
func illBound(n api.Node) string {
	if n.Op != "query" || len(n.L) != 2 || n.L[1].Op != "order" {
		return "no query: " + n.Op
	}
	for _, key := range n.L[1].L {
		if key.Op != "key" || len(key.L) > 0 || key.N < 0 || key.N >= int64(width(n.L[0])) {
			return "no key of the order: " + show(key)
		}
	}
	return illBody(n.L[0], nil)
}

// illBoundExpr tells likewise what is wrong with an expression over a row.
func illBoundExpr(n api.Node, columns int) string {
	return illExpr(n, []int{columns})
}

// width is how many columns a bound body has.
func width(n api.Node) int {
	for n.Op != "select" {
		if len(n.L) == 0 {
			return 0
		}
		n = n.L[0]
	}
	return len(n.L[0].L)
}

func illBody(n api.Node, outer []int) string {
	switch n.Op {
	case "union", "except", "intersect":
		if len(n.L) != 2 || width(n.L[0]) != width(n.L[1]) {
			return "both sides have not as many columns"
		}
		return first(illBody(n.L[0], outer), illBody(n.L[1], outer))
	case "select":
		return illSelect(n, outer)
	}
	return "no body: " + n.Op
}

func first(all ...string) string {
	for _, why := range all {
		if why != "" {
			return why
		}
	}
	return ""
}

func illSelect(n api.Node, outer []int) string {
	ops := []string{"items", "from", "where", "group", "having", "totals", "grouped"}
	if !slices.EqualFunc(n.L, ops, func(part api.Node, op string) bool { return part.Op == op }) {
		return "no select: " + show(n)
	}
	items, from, where, group, having, totals, grouped := n.L[0], n.L[1], n.L[2], n.L[3], n.L[4], n.L[5], n.L[6]
	rows := 0
	for _, table := range from.L {
		if why := illTable(table, outer); why != "" {
			return why
		}
		rows += int(table.N)
	}
	within := append([]int{rows}, outer...)
	view := within
	switch {
	case grouped.N == 1:
		view = append([]int{len(group.L) + len(totals.L)}, outer...)
	case grouped.N != 0 || len(group.L)+len(having.L)+len(totals.L) > 0:
		return "is it grouped? " + show(grouped)
	}
	for _, item := range items.L {
		if item.Op != "item" || len(item.L) != 1 || item.S == "" || item.N != 0 {
			return "no item: " + show(item)
		}
	}
	for _, total := range totals.L {
		if !slices.Contains([]string{"count*", "count", "sum", "min", "max"}, total.Op) {
			return "no total: " + show(total)
		}
	}
	for _, key := range group.L {
		if key.Op != "slot" || key.N < 0 || key.N >= int64(rows) {
			return "GROUP BY has no column: " + show(key)
		}
	}
	return first(illParts(where, within), illParts(items, view), illParts(having, view), illTotals(totals, within))
}

// illTotals tells what is wrong with totals' parts: totals within them are no trees of a bound one.
func illTotals(n api.Node, scopes []int) string {
	for _, total := range n.L {
		if why := illParts(total, scopes); why != "" {
			return why
		}
	}
	return ""
}

func illTable(n api.Node, outer []int) string {
	switch n.Op {
	case "table":
		if len(n.L) > 0 || n.S == "" {
			return "no table: " + show(n)
		}
		return ""
	case "derived":
		if len(n.L) != 1 || n.N != int64(width(n.L[0])) {
			return "not as many columns as its body: " + show(n)
		}
		return illBody(n.L[0], outer)
	case "cross", "inner", "left", "right", "full":
		parts := 3
		if n.Op == "cross" {
			parts = 2
		}
		if len(n.L) != parts || n.N != n.L[0].N+n.L[1].N {
			return "not as many columns as both: " + show(n)
		}
		why := first(illTable(n.L[0], outer), illTable(n.L[1], outer))
		for _, condition := range n.L[2:] {
			why = first(why, illExpr(condition, append([]int{int(n.N)}, outer...)))
		}
		return why
	}
	return "nothing of FROM: " + n.Op
}

func illParts(n api.Node, scopes []int) string {
	for _, part := range n.L {
		if n.Op == "items" {
			part = part.L[0]
		}
		if why := illExpr(part, scopes); why != "" {
			return why
		}
	}
	return ""
}

func illExpr(n api.Node, scopes []int) string {
	switch n.Op {
	case "slot":
		scope, place := n.N/1000, n.N%1000
		if n.N < 0 || scope >= int64(len(scopes)) || place >= int64(scopes[scope]) || n.S != "" || len(n.L) > 0 {
			return "slot " + strconv.FormatInt(n.N, 10) + " is no place of " + showWidths(scopes)
		}
		return ""
	case "col", "count*", "count", "sum", "min", "max", "item", "items", "query", "":
		return n.Op + " where it may not be"
	case "select", "union", "except", "intersect":
		return illBody(n, scopes)
	case "type":
		return ""
	}
	return illParts(n, scopes)
}

func showWidths(scopes []int) string {
	text := "scopes of"
	for _, width := range scopes {
		text += " " + strconv.Itoa(width)
	}
	return text
}
