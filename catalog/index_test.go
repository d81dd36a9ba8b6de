package catalog

import (
	"slices"
	"strconv"
	"testing"

	"stile/api"
)

// three are three tables with indexes: of b the second of two that have names is the last one, m has one between two without names, z one alone.
func three(t *testing.T) []api.Table {
	t.Helper()
	l := schemaOf(t,
		"create table b (a int primary key, b char(3))", "create index i1 on b (b)", "create unique index i2 on b (b, a)",
		"create table m (a int primary key, b int unique, c boolean check (c))",
		"create table z (a int, b int, primary key (b, a), foreign key (a) references m)", "create index i4 on z (a)")
	m, _ := Find(l, "m")
	m.Indexes = slices.Insert(m.Indexes, 1, api.Index{Name: "i3", Cols: []int{2, 0}})
	return With(l, m)
}

func TestIndex(t *testing.T) {
	l := three(t)
	for text, last := range map[string]api.Index{
		"create index j on m (a)":              {Name: "j", Cols: []int{0}},
		"create unique index j on m (a)":       {Name: "j", Cols: []int{0}, Unique: true},
		"create index j on m (c, a)":           {Name: "j", Cols: []int{2, 0}},
		"create unique index j on m (b, c, a)": {Name: "j", Cols: []int{1, 2, 0}, Unique: true},
		// An index may have a table's name, a column's, one that another index's name begins with, or the columns of another one.
		"create index m on m (b)":         {Name: "m", Cols: []int{1}},
		"create index z on m (b)":         {Name: "z", Cols: []int{1}},
		"create unique index b on m (b)":  {Name: "b", Cols: []int{1}, Unique: true},
		"create index i on m (b)":         {Name: "i", Cols: []int{1}},
		"create index i33 on m (c, a)":    {Name: "i33", Cols: []int{2, 0}},
		"create unique index j on m (b);": {Name: "j", Cols: []int{1}, Unique: true},
	} {
		want := deep(l[1])
		want.Indexes = append(want.Indexes, last)
		makes(t, "Index", l, text, want)
	}
}

func TestIndexStates(t *testing.T) {
	l := three(t)
	six := schemaOf(t, "create table f (a int primary key, b int unique, c int)", "create index j1 on f (c)", "create unique index j2 on f (c)", "create index j3 on f (c)", "create index j4 on f (c)")
	l = With(l, six[0])
	for text, want := range map[string]api.State{
		"create index j on x (a)": api.NoTable, "create unique index j on x (a)": api.NoTable, "create index j on i1 (a)": api.NoTable, "create index j on mm (a)": api.NoTable, "create index j on a (a)": api.NoTable,
		"create index i1 on m (a)": api.TwoTables, "create index i2 on m (a)": api.TwoTables, "create index i3 on m (a)": api.TwoTables, "create index i4 on m (a)": api.TwoTables, "create unique index i4 on z (b)": api.TwoTables, "create index j4 on b (a)": api.TwoTables, "create index i1 on b (b)": api.TwoTables,
		"create index j on m (x)": api.NoColumn, "create index j on m (a, x)": api.NoColumn, "create index j on m (m)": api.NoColumn, "create index j on m (j)": api.NoColumn,
		"create index j on m (a, a)": api.BadTable, "create unique index j on m (b, a, b)": api.BadTable, "create index j on m (a, a, x)": api.BadTable, "create index j on m (a, x, a)": api.NoColumn,
		"create index j on f (a)": api.TooLarge, "create unique index j on f (c)": api.TooLarge,
		// Of several the first.
		"create index i1 on x (a, a)": api.NoTable, "create index i1 on m (x)": api.TwoTables, "create index i1 on m (a, a)": api.TwoTables, "create index i1 on f (a)": api.TwoTables, "create index i1 on f (x)": api.TwoTables, "create index j1 on f (a)": api.TwoTables,
		"create index j on f (x)": api.NoColumn, "create index j on f (a, a)": api.BadTable,
	} {
		tells(t, "Index", l, text, want)
	}
	for _, name := range []string{"i1", "m"} {
		tells(t, "Index", nil, "create index "+name+" on m (a)", api.NoTable)
	}
}

// Index behind index, till the table has as many as it may; then one for each that is taken away.
func TestIndexTillFull(t *testing.T) {
	for uniques := range api.MaxIndexes {
		text := "create table t (a int primary key, b int"
		for range uniques {
			text += " unique"
		}
		l := schemaOf(t, text+")")
		for count := uniques + 1; count < api.MaxIndexes; count++ {
			x := tells(t, "Index", l, "create index i"+strconv.Itoa(count)+" on t (b)", api.Done)
			if len(x.Indexes) != count+1 || x.Indexes[count].Name != "i"+strconv.Itoa(count) {
				t.Errorf("P15.1: C3: behind %d indexes: %+v", count, x.Indexes)
			}
			l = With(l, x)
		}
		tells(t, "Index", l, "create index j on t (b)", api.TooLarge)
		if uniques == api.MaxIndexes-1 {
			continue
		}
		l = With(l, tells(t, "DropIndex", l, "drop index i"+strconv.Itoa(uniques+1), api.Done))
		l = With(l, tells(t, "Index", l, "create index j on t (b)", api.Done))
		tells(t, "Index", l, "create index k on t (b)", api.TooLarge)
	}
}

func TestDropTable(t *testing.T) {
	l := schemaOf(t,
		"create table a (a int primary key)",
		"create table b (a int primary key references b)",
		"create table m (a int primary key references a references m)",
		"create table p (a int primary key, b int)",
		"create table z (a int primary key, b int references p, c int references p references a)",
		"create table zz (a int primary key, b int, unique (b), check (b > 0))", "create index zzz on zz (a)")
	for name, want := range map[string]api.State{
		"x": api.NoTable, "aa": api.NoTable, "zzz": api.NoTable,
		"a": api.InUse, "b": api.Done, "m": api.Done, "p": api.InUse, "z": api.Done, "zz": api.Done,
	} {
		tells(t, "DropTable", l, "drop table "+name, want)
	}
	// One that references itself, and is referenced by another one, ahead of it or behind.
	both := schemaOf(t, "create table m (a int primary key references m)", "create table a (a int primary key references m)")
	tells(t, "DropTable", both, "drop table m", api.InUse)
	tells(t, "DropTable", Without(both, "a"), "drop table m", api.Done)
	both = schemaOf(t, "create table m (a int primary key references m)", "create table z (a int primary key, b int references m)")
	tells(t, "DropTable", both, "drop table m", api.InUse)
	tells(t, "DropTable", both, "drop table z", api.Done)
	tells(t, "DropTable", Without(both, "z"), "drop table m", api.Done)
	tells(t, "DropTable", nil, "drop table m", api.NoTable)
	// A link to a table that is not there is none of that table's.
	tells(t, "DropTable", Without(both, "m"), "drop table m", api.NoTable)
}

func TestDropIndex(t *testing.T) {
	l := three(t)
	for _, x := range l {
		for at, index := range x.Indexes {
			if index.Name == "" {
				continue
			}
			want := deep(x)
			want.Indexes = slices.Delete(want.Indexes, at, at+1)
			makes(t, "DropIndex", l, "drop index "+index.Name, want)
		}
	}
	for _, name := range []string{"i", "i5", "i11", "b", "m", "z", "a", "x"} {
		tells(t, "DropIndex", l, "drop index "+name, api.NoIndex)
	}
	tells(t, "DropIndex", nil, "drop index i1", api.NoIndex)
	gone := tells(t, "DropIndex", l, "drop index i3", api.Done)
	tells(t, "DropIndex", With(l, gone), "drop index i3", api.NoIndex)
	tells(t, "Index", With(l, gone), "create index i3 on z (a)", api.Done)
	// What has no name, the primary key first of all, is found by none.
	if x, state := DropIndex(l, api.Node{Op: "drop index"}); state != api.NoIndex || !nothing(x) {
		t.Errorf("P15.1: C3: an index without a name is dropped: %+v, %s", x, state)
	}
}
