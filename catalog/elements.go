package catalog

import (
	"iter"
	"slices"

	"stile/api"
)

// elements are a statement's parts of some kinds, in the order in which they stand, each with the names of the columns that it is about. A column's options are among them, where it stands: each is as an element about that column alone.
func elements(n api.Node, ops ...string) iter.Seq2[api.Node, []string] {
	return func(yield func(api.Node, []string) bool) {
		for _, part := range n.L {
			if slices.Contains(ops, part.Op) && !yield(part, names(part)) {
				return
			}
			if part.Op != "column" {
				continue
			}
			for _, option := range part.L {
				if slices.Contains(ops, option.Op) && !yield(option, []string{part.S}) {
					return
				}
			}
		}
	}
}

// names are the names among a tree's parts.
func names(n api.Node) []string {
	var all []string
	for _, part := range n.L {
		if part.Op == "name" {
			all = append(all, part.S)
		}
	}
	return all
}

// tableOf is the name of the table that an index stands on.
func tableOf(n api.Node) string {
	for on := range elements(n, "on") {
		return on.S
	}
	return ""
}

// typeOf is a column's type, such as it stands: it may be none that is right.
func typeOf(column api.Node) api.Type {
	for n := range elements(column, "type") {
		return TypeOf(n)
	}
	return api.Type{}
}

// TypeOf is the type of a type's tree, such as it stands. (The layers behind read by it what a value is cast to.)
func TypeOf(n api.Node) api.Type {
	// An int need not hold every number of a tree; a length that is too great stays too great, one below 0 too small.
	length := int(max(-1, min(n.N, api.MaxChar+1)))
	return api.Type{Base: baseOf(n.S), Len: length}
}

func baseOf(name string) api.Base {
	switch name {
	case "smallint":
		return api.Small
	case "integer":
		return api.Integer
	case "bigint":
		return api.Big
	case "char":
		return api.Char
	case "varchar":
		return api.Varchar
	case "boolean":
		return api.Boolean
	}
	return api.NoType
}
