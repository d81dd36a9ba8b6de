package bind

import (
	"stile/api"
	"stile/types"
)

const (
	// widest is how many columns the tables of one FROM may have.
	widest = 500
	// scopeStep is how far apart two scopes' slots are: no scope can have more places than that.
	scopeStep = 1000
)

// column is a scope's: the alias of its table, its own name, and its kind.
type column struct {
	table, name string
	kind        api.Kind
}

// scope is the columns that names may mean; what it has not is looked for in the one around it.
type scope struct {
	columns []column
	outer   *scope
	// rows is the scope of the rows that are grouped, if this one is a group's; totals are then those that were met, whose places are behind the columns.
	rows   *scope
	totals []api.Node
}

// rowOf is the scope of a table's row by itself.
func rowOf(t api.Table) *scope {
	row := &scope{columns: columnsOf(t)}
	for at := range row.columns {
		row.columns[at].table = t.Name
	}
	return row
}

func columnsOf(t api.Table) []column {
	columns := make([]column, len(t.Columns))
	for at, c := range t.Columns {
		columns[at] = column{name: c.Name, kind: types.KindOf(c.Type)}
	}
	return columns
}

// add puts a table's columns behind those that a scope has.
func (s *scope) add(alias string, columns []column) {
	need(len(columns) == 0 || !s.hasTable(alias), api.TwoTables)
	need(len(s.columns)+len(columns) <= widest, api.TooLarge)
	for _, c := range columns {
		c.table = alias
		s.columns = append(s.columns, c)
	}
}

func (s *scope) hasTable(alias string) bool {
	for _, c := range s.columns {
		if c.table == alias {
			return true
		}
	}
	return false
}

// name is what a column is called in a statement: perhaps with its table's alias ahead.
type name struct {
	table, column string
	ofTable       bool
}

func nameOf(col api.Node) name {
	if len(col.L) == 0 {
		return name{column: col.S}
	}
	return name{table: col.L[0].S, column: col.S, ofTable: true}
}

// places are where a scope has columns that are called so.
func (s *scope) places(called name) []int {
	var places []int
	for at, c := range s.columns {
		if c.name == called.column && (!called.ofTable || c.table == called.table) {
			places = append(places, at)
		}
	}
	return places
}

// find is the slot of a column that a scope has, or one around it.
func (s *scope) find(col api.Node) (api.Node, api.Kind) {
	called := nameOf(col)
	number := 0
	for at := s; at != nil; at = at.outer {
		if places := at.places(called); len(places) > 0 {
			need(called.ofTable || len(places) == 1, api.Ambiguous)
			return slot(number, places[0]), at.columns[places[0]].kind
		}
		need(at.rows == nil || len(at.rows.places(called)) == 0, api.Grouping)
		need(!called.ofTable || !at.hasTable(called.table), api.NoColumn)
		number++
	}
	panic(fault{api.NoColumn})
}

// addTotal puts a total behind all that a group's scope has.
func (s *scope) addTotal(total api.Node) api.Node {
	place := len(s.columns) + len(s.totals)
	s.totals = append(s.totals, total)
	return slot(0, place)
}

// slot is a place of a scope. Only totals may be too many for it: FROM is too large far ahead of that.
func slot(number, place int) api.Node {
	need(place < scopeStep, api.TooLarge)
	return api.Node{Op: "slot", N: int64(number)*scopeStep + int64(place)}
}

// told are columns as they are answered.
func told(columns []column) []api.Column {
	all := make([]api.Column, len(columns))
	for at, c := range columns {
		all[at] = api.Column{Name: c.name, Type: api.Type{Base: baseOf(c.kind)}}
	}
	return all
}

func baseOf(kind api.Kind) api.Base {
	switch kind {
	case api.Num:
		return api.Big
	case api.Text:
		return api.Varchar
	case api.Bool:
		return api.Boolean
	}
	return api.NoType
}
