package catalog

import (
	"slices"

	"stile/api"
	"stile/types"
)

// definition is a table that is being defined: by what, among which others, and as far as it has come.
type definition struct {
	schema []api.Table
	tree   api.Node
	table  api.Table
}

func (d *definition) takeName() {
	_, is := Find(d.schema, d.table.Name)
	need(!is, api.TwoTables)
	need(len(d.schema) < api.MaxTables, api.TooLarge)
}

func (d *definition) takeColumns() {
	for column := range elements(d.tree, "column") {
		same := func(ahead api.Column) bool { return ahead.Name == column.S }
		need(!slices.ContainsFunc(d.table.Columns, same), api.TwoColumns)
		kept := api.Column{Name: column.S, Type: typeOf(column)}
		need(types.Right(kept.Type), api.BadTable)
		need(len(d.table.Columns) < api.MaxColumns, api.TooLarge)
		d.table.Columns = append(d.table.Columns, kept)
	}
	need(len(d.table.Columns) > 0, api.BadTable)
}

// takePrimary makes the primary key the first index. What is not null may be told here, too: no error hangs on it.
func (d *definition) takePrimary() {
	var keys [][]string
	for _, names := range elements(d.tree, "primary") {
		keys = append(keys, names)
	}
	need(len(keys) == 1, api.BadTable)
	addIndex(&d.table, "", keys[0], true)
	for _, names := range elements(d.tree, "primary", "notnull") {
		for _, at := range columnsAt(d.table, names) {
			d.table.Columns[at].NotNull = true
		}
	}
}

func (d *definition) takeUniques() {
	for _, names := range elements(d.tree, "unique") {
		addIndex(&d.table, "", names, true)
	}
}

func (d *definition) takeLinks() {
	for link, names := range elements(d.tree, "references", "foreign") {
		places := columnsAt(d.table, names)
		linked := d.linked(link.S)
		need(slices.Equal(kindsOf(d.table, places), keyKinds(linked)), api.BadForeign)
		d.table.Links = append(d.table.Links, api.Link{Cols: places, Table: link.S})
	}
}

// linked is the table of a name, which may be the one that is being defined.
func (d *definition) linked(name string) api.Table {
	if name == d.table.Name {
		return d.table
	}
	t, is := Find(d.schema, name)
	need(is, api.NoTable)
	return t
}

func (d *definition) takeChecks() {
	for check := range elements(d.tree, "check") {
		d.table.Checks = append(d.table.Checks, check.L...)
	}
}
