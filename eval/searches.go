package eval

import (
	"stile/api"
	"stile/value"
)

// ask is a query's rows. Where nobody is there who could answer it, it cannot be asked.
func (a *asking) ask(body api.Node) []api.Row {
	need(a.run != nil, api.Syntax)
	return must(a.run(body, a.rows))
}

// search holds a value against each row of a query, and joins what these tests tell.
func (a *asking) search(n api.Node, sign string, none api.Truth, join func(x, y api.Truth) api.Truth) api.Truth {
	held, found := a.value(n.L[0]), none
	for _, row := range a.ask(n.L[1]) {
		found = join(found, must(value.Test(sign, held, first(row))))
	}
	return found
}

func (a *asking) scalar(n api.Node) api.Value {
	rows := a.ask(n.L[0])
	need(len(rows) <= 1, api.Cardinal)
	if len(rows) == 0 {
		return api.Value{}
	}
	return first(rows[0])
}

// first is a row's first value.
func first(row api.Row) api.Value {
	if len(row) == 0 {
		return api.Value{}
	}
	return row[0]
}
