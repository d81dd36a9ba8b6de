package catalog

import (
	"slices"

	"stile/api"
	"stile/types"
)

// fault is thrown where a definition cannot be, however deep that is found; it says why.
type fault struct {
	state api.State
}

// need throws a state, if something is not so.
func need(is bool, state api.State) {
	if !is {
		panic(fault{state})
	}
}

// answer is the table that is made, or else the state that is thrown on the way.
func answer(made func() api.Table) (t api.Table, state api.State) {
	defer func() {
		thrown := recover()
		if thrown == nil {
			return
		}
		why, is := thrown.(fault)
		if !is {
			panic(thrown)
		}
		t, state = api.Table{}, why.state
	}()
	return made(), api.Done
}

// own is a table whose lists are no other one's. Trees stay as they are: nobody writes into them, and one list of theirs may stand at more places than could be gone over.
func own(t api.Table) api.Table {
	t.Columns = slices.Clone(t.Columns)
	t.Indexes = slices.Clone(t.Indexes)
	for at := range t.Indexes {
		t.Indexes[at].Cols = slices.Clone(t.Indexes[at].Cols)
	}
	t.Links = slices.Clone(t.Links)
	for at := range t.Links {
		t.Links[at].Cols = slices.Clone(t.Links[at].Cols)
	}
	t.Checks = slices.Clone(t.Checks)
	return t
}

// columnsAt are the places of a table's columns of some names.
func columnsAt(t api.Table, names []string) []int {
	var places []int
	for _, name := range names {
		at := slices.IndexFunc(t.Columns, func(c api.Column) bool { return c.Name == name })
		need(at >= 0, api.NoColumn)
		need(!slices.Contains(places, at), api.BadTable)
		places = append(places, at)
	}
	return places
}

// addIndex makes an index of the columns of some names a table's last one.
func addIndex(t *api.Table, name string, names []string, unique bool) {
	places := columnsAt(*t, names)
	need(len(t.Indexes) < api.MaxIndexes, api.TooLarge)
	t.Indexes = append(t.Indexes, api.Index{Name: name, Cols: places, Unique: unique})
}

// indexAt is the place of a table's index of a name, or below 0. What has no name, as the primary key, is found by none.
func indexAt(t api.Table, name string) int {
	if name == "" {
		return -1
	}
	return slices.IndexFunc(t.Indexes, func(index api.Index) bool { return index.Name == name })
}

// keyKinds are the kinds of the columns of a table's primary key.
func keyKinds(t api.Table) []api.Kind {
	if len(t.Indexes) == 0 {
		return nil
	}
	return kindsOf(t, t.Indexes[0].Cols)
}

// kindsOf are the kinds of a table's columns at some places; Null, where there is none.
func kindsOf(t api.Table, places []int) []api.Kind {
	kinds := make([]api.Kind, len(places))
	for i, at := range places {
		if at >= 0 && at < len(t.Columns) {
			kinds[i] = types.KindOf(t.Columns[at].Type)
		}
	}
	return kinds
}
