package catalog

import (
	"slices"
	"strconv"
	"strings"
	"testing"

	"stile/api"
)

var (
	small    = api.Type{Base: api.Small}
	integer  = api.Type{Base: api.Integer}
	big      = api.Type{Base: api.Big}
	truthful = api.Type{Base: api.Boolean}
)

func char(n int) api.Type    { return api.Type{Base: api.Char, Len: n} }
func varchar(n int) api.Type { return api.Type{Base: api.Varchar, Len: n} }

// column is one that may be null; must is one that may not.
func column(name string, x api.Type) api.Column { return api.Column{Name: name, Type: x} }
func must(name string, x api.Type) api.Column {
	return api.Column{Name: name, Type: x, NotNull: true}
}

func columns(l ...api.Column) []api.Column { return l }

// keys are indexes without names, Unique.
func keys(l ...[]int) []api.Index {
	var out []api.Index
	for _, places := range l {
		out = append(out, api.Index{Cols: places, Unique: true})
	}
	return out
}

func link(table string, places ...int) api.Link { return api.Link{Cols: places, Table: table} }

// numbered is n texts with commas between, `#` being the numbers from 1 on.
func numbered(n int, text string) string {
	var all []string
	for i := range n {
		all = append(all, strings.ReplaceAll(text, "#", strconv.Itoa(i+1)))
	}
	return strings.Join(all, ", ")
}

// manyTables are n tables, the names of which begin with x.
func manyTables(t *testing.T, n int) []api.Table {
	t.Helper()
	var texts []string
	for i := range n {
		texts = append(texts, "create table x"+strconv.Itoa(i)+" (a int primary key)")
	}
	return schemaOf(t, texts...)
}

func TestDefineExamples(t *testing.T) {
	x := tells(t, "Define", nil, "create table t (a int primary key, b int unique references t)", api.Done)
	if len(x.Indexes) != 2 || len(x.Links) != 1 {
		t.Errorf("P15.1: C2: %+v", x)
	}
	tells(t, "Define", nil, "create table t (a int)", api.BadTable)
	l := schemaOf(t, "create table t (a int primary key)", "create table u (a int primary key references t)")
	tells(t, "DropTable", l, "drop table t", api.InUse)
}

func TestDefineWhole(t *testing.T) {
	l := schemaOf(t, "create table u (d char(7), p bigint, q varchar(5), primary key (p, q))")
	makes(t, "Define", l, `create table t (
		unique (c, a), check (b > 0),
		a smallint not null references t,
		b int check (b < 9) unique check (b <> 5) unique,
		foreign key (b, c) references u,
		c varchar(9) not null not null,
		d boolean, check (d), e char, f character(100) not null, g bigint unique,
		primary key (a), unique (f))`, api.Table{
		Name:    "t",
		Columns: columns(must("a", small), column("b", integer), must("c", varchar(9)), column("d", truthful), column("e", char(1)), must("f", char(100)), column("g", big)),
		Indexes: keys([]int{0}, []int{2, 0}, []int{1}, []int{1}, []int{6}, []int{5}),
		Links:   []api.Link{link("t", 0), link("u", 1, 2)},
		Checks:  []api.Node{condition(t, "b > 0"), condition(t, "b < 9"), condition(t, "b <> 5"), condition(t, "d")},
	})
	makes(t, "Define", nil, "create table t (a int primary key)", api.Table{Name: "t", Columns: columns(must("a", integer)), Indexes: keys([]int{0})})
}

// condition is the tree of an expression.
func condition(t *testing.T, text string) api.Node {
	t.Helper()
	return read(t, "delete from t where "+text).L[0].L[0]
}

func TestDefineName(t *testing.T) {
	l := schemaOf(t, "create table a (a int primary key)", "create table m (a int primary key)", "create table z (a int primary key)", "create index i on m (a)")
	for _, name := range []string{"a", "m", "z"} {
		tells(t, "Define", l, "create table "+name+" (a int primary key)", api.TwoTables)
	}
	// An index's name, or a column's, is no table's; nor is one that begins so.
	for _, name := range []string{"b", "mm", "i", "_"} {
		tells(t, "Define", l, "create table "+name+" (a int primary key)", api.Done)
	}
	for n := range api.MaxTables + 1 {
		want := api.Done
		if n == api.MaxTables {
			want = api.TooLarge
		}
		tells(t, "Define", manyTables(t, n), "create table t (a int primary key)", want)
	}
	tells(t, "Define", manyTables(t, api.MaxTables), "create table x3 (a int primary key)", api.TwoTables)
}

func TestDefineTypes(t *testing.T) {
	for text, want := range map[string]api.Type{"smallint": small, "int": integer, "integer": integer, "bigint": big, "boolean": truthful, "char": char(1), "character": char(1), "char(1)": char(1), "char(100)": char(100), "character(2)": char(2), "varchar(1)": varchar(1), "varchar(100)": varchar(100)} {
		makes(t, "Define", nil, "create table t (a "+text+" primary key)", api.Table{Name: "t", Columns: columns(must("a", want)), Indexes: keys([]int{0})})
		makes(t, "Define", nil, "create table t (a int primary key, b "+text+")", api.Table{Name: "t", Columns: columns(must("a", integer), column("b", want)), Indexes: keys([]int{0})})
	}
	for _, text := range []string{"char(0)", "character(0)", "varchar(0)", "char(101)", "varchar(101)", "char(4294967297)", "varchar(4294967306)", "char(9223372036854775807)", "varchar(9223372036854775807)"} {
		tells(t, "Define", nil, "create table t (a "+text+" primary key)", api.BadTable)
		tells(t, "Define", nil, "create table t (a int primary key, b "+text+")", api.BadTable)
	}
}

func TestTypeOf(t *testing.T) {
	for _, c := range []struct {
		n    api.Node
		want api.Type
	}{
		{read(t, "select cast(1 as varchar(7)) from t").L[0].L[0].L[0].L[0].L[0], varchar(7)},
		{read(t, "select cast(1 as bigint) from t").L[0].L[0].L[0].L[0].L[0], big},
		{api.Node{Op: "type", S: "char"}, char(0)},
		{api.Node{Op: "type", S: "smallint", N: 1}, api.Type{Base: api.Small, Len: 1}},
		{api.Node{Op: "type", S: "CHAR", N: 1}, api.Type{Len: 1}},
		{api.Node{}, api.Type{}},
	} {
		if x := TypeOf(c.n); x != c.want {
			t.Errorf("P15.1: C2: the type of %+v: %+v, not %+v", c.n, x, c.want)
		}
	}
}

func TestDefineColumns(t *testing.T) {
	for n := 1; n <= api.MaxColumns+2; n++ {
		want := api.Done
		if n > api.MaxColumns {
			want = api.TooLarge
		}
		x := tells(t, "Define", nil, "create table t ("+numbered(n, "c# int")+", primary key (c1))", want)
		if want == api.Done && len(x.Columns) != n {
			t.Errorf("P15.1: C2: %d columns, not %d", len(x.Columns), n)
		}
	}
	for text, want := range map[string]api.State{
		"a int primary key, a int": api.TwoColumns, "a int primary key, b int, a char(2)": api.TwoColumns, "a int primary key, b int, b int, c int": api.TwoColumns, "a int primary key, t int": api.Done,
		// Of one column the first that is wrong, of several the first column.
		"a int, a char(0)": api.TwoColumns, "a char(0), a int": api.BadTable, "a int, b char(0), a int": api.BadTable, "a int, a int, b char(0)": api.TwoColumns,
		numbered(12, "c# int") + ", c3 int":               api.TwoColumns,
		numbered(12, "c# int") + ", c3 char(0)":           api.TwoColumns,
		numbered(12, "c# int") + ", d char(0)":            api.BadTable,
		numbered(12, "c# int") + ", d int, c1 int":        api.TooLarge,
		numbered(12, "c# int") + ", d int, e char(0)":     api.TooLarge,
		numbered(11, "c# int") + ", d char(0), e int":     api.BadTable,
		"primary key (a), " + numbered(13, "c# int"):      api.TooLarge,
		"primary key (a)":                                 api.BadTable,
		"check (true)":                                    api.BadTable,
		"unique (a), foreign key (a) references nobody":   api.BadTable,
		"primary key (a), unique (a), check (true)":       api.BadTable,
		"primary key (c2), " + numbered(12, "c# integer"): api.Done,
	} {
		tells(t, "Define", nil, "create table t ("+text+")", want)
	}
}

func TestDefinePrimary(t *testing.T) {
	for text, want := range map[string]api.State{
		"a int primary key": api.Done, "a int, primary key (a)": api.Done, "primary key (a), a int": api.Done, "a int, b int primary key": api.Done,
		"a int": api.BadTable, "a int not null unique": api.BadTable, "a int, unique (a)": api.BadTable,
		"a int primary key primary key": api.BadTable, "a int primary key, b int primary key": api.BadTable, "a int primary key, primary key (a)": api.BadTable, "a int primary key, b int, primary key (b)": api.BadTable, "a int, primary key (a), primary key (a)": api.BadTable, "a int, b int, primary key (a), primary key (b)": api.BadTable,
		"a int primary key, primary key (b)": api.BadTable, "a int, primary key (b), primary key (c)": api.BadTable,
		"a int, primary key (b)": api.NoColumn, "a int, primary key (t)": api.NoColumn, "a int, primary key (a, b)": api.NoColumn, "a int, primary key (b, a)": api.NoColumn,
		"a int, primary key (a, a)": api.BadTable, "a int, b int, primary key (a, b, a)": api.BadTable, "a int, b int, primary key (b, a, a)": api.BadTable,
		"a int, primary key (a, a, b)": api.BadTable, "a int, primary key (a, b, a)": api.NoColumn, "a int, primary key (b, b)": api.NoColumn,
	} {
		tells(t, "Define", nil, "create table t ("+text+")", want)
	}
}

func TestDefineNotNull(t *testing.T) {
	for text, want := range map[string][]bool{
		"a int primary key":                                     {true},
		"a int, b int primary key":                              {false, true},
		"a int, b int, c int, primary key (c, a)":               {true, false, true},
		"primary key (b), a int, b int":                         {false, true},
		"a int not null, b int primary key":                     {true, true},
		"a int primary key not null, b int":                     {true, false},
		"a int unique, b int check (b > 0), c int primary key":  {false, false, true},
		"a int references t, b int primary key, c int not null": {false, true, true},
		"a int, b int not null unique not null, c int primary key, unique (a), foreign key (a) references t": {false, true, true},
	} {
		x := tells(t, "Define", nil, "create table t ("+text+")", api.Done)
		var is []bool
		for _, c := range x.Columns {
			is = append(is, c.NotNull)
		}
		if !slices.Equal(is, want) {
			t.Errorf("P15.1: C2: not null of %s: %v, not %v", text, is, want)
		}
	}
}

// abc are columns of three kinds, and a primary key.
const abc = "a int primary key, b char(3), c boolean"

func TestDefineUnique(t *testing.T) {
	for text, want := range map[string][]api.Index{
		"a int primary key unique":                  keys([]int{0}, []int{0}),
		"a int unique primary key":                  keys([]int{0}, []int{0}),
		"a int primary key, unique (a), unique (a)": keys([]int{0}, []int{0}, []int{0}),
		"unique (b, a), a int unique unique, unique (a, b), b int unique, primary key (b)": keys([]int{1}, []int{1, 0}, []int{0}, []int{0}, []int{0, 1}, []int{1}),
		"a int primary key, c int unique, b int unique, unique (b, c)":                     keys([]int{0}, []int{1}, []int{2}, []int{2, 1}),
		"unique (c), c int, a int primary key, unique (c, a), b int unique":                keys([]int{1}, []int{0}, []int{0, 1}, []int{2}),
	} {
		if x := tells(t, "Define", nil, "create table t ("+text+")", api.Done); !alike(api.Table{Indexes: x.Indexes}, api.Table{Indexes: want}) {
			t.Errorf("P15.1: C2: indexes of %s: %+v, not %+v", text, x.Indexes, want)
		}
	}
	for text, want := range map[string]api.State{
		"unique (x)": api.NoColumn, "unique (a, x)": api.NoColumn, "unique (t)": api.NoColumn, "unique (a, a)": api.BadTable, "unique (a, b, a)": api.BadTable, "unique (a, a, x)": api.BadTable, "unique (a, x, a)": api.NoColumn, "unique (a, b, c)": api.Done,
		"unique (a), unique (x), unique (a, a)": api.NoColumn, "unique (a), unique (a, a), unique (x)": api.BadTable,
		numbered(5, "unique (a)"):                                          api.Done,
		numbered(6, "unique (a)"):                                          api.TooLarge,
		numbered(7, "unique (a)"):                                          api.TooLarge,
		numbered(4, "unique (a)") + ", d int unique":                       api.Done,
		numbered(5, "unique (a)") + ", d int unique":                       api.TooLarge,
		"d int unique unique unique unique unique":                         api.Done,
		"d int unique unique unique unique unique unique":                  api.TooLarge,
		numbered(5, "unique (a)") + ", unique (x)":                         api.NoColumn,
		numbered(5, "unique (a)") + ", unique (a, a)":                      api.BadTable,
		numbered(6, "unique (a)") + ", unique (x)":                         api.TooLarge,
		numbered(4, "unique (a)") + ", unique (x), unique (a), unique (a)": api.NoColumn,
	} {
		tells(t, "Define", nil, "create table t ("+abc+", "+text+")", want)
		tells(t, "Define", nil, "create table t ("+text+", "+abc+")", want)
	}
}

func TestDefineLinks(t *testing.T) {
	l := schemaOf(t,
		"create table n (a bigint primary key)", "create table s (z int, a varchar(9) primary key)", "create table b (a boolean primary key)",
		"create table ns (x boolean, s varchar(5), n smallint, primary key (n, s), unique (x))")
	for text, want := range map[string][]api.Link{
		"d smallint references n": {link("n", 3)}, "foreign key (a) references n": {link("n", 0)}, "foreign key (b) references s, foreign key (c) references b": {link("s", 1), link("b", 2)},
		"foreign key (a, b) references ns": {link("ns", 0, 1)}, "foreign key (a) references t": {link("t", 0)}, "d bigint references t references n": {link("t", 3), link("n", 3)},
		"foreign key (a) references t, d int references n, foreign key (d) references t, e int references t, foreign key (e, b) references ns": {link("t", 0), link("n", 3), link("t", 3), link("t", 4), link("ns", 4, 1)},
		numbered(9, "foreign key (a) references n"): slices.Repeat([]api.Link{link("n", 0)}, 9),
	} {
		if x := tells(t, "Define", l, "create table t ("+abc+", "+text+")", api.Done); !alike(api.Table{Links: x.Links}, api.Table{Links: want}) {
			t.Errorf("P15.1: C2: links of %s: %+v, not %+v", text, x.Links, want)
		}
	}
	for text, want := range map[string]api.State{
		"foreign key (x) references n": api.NoColumn, "foreign key (a, x) references n": api.NoColumn, "foreign key (a, a) references n": api.BadTable, "foreign key (a, a, x) references n": api.BadTable, "foreign key (x, a, a) references n": api.NoColumn,
		"foreign key (x) references nobody": api.NoColumn, "foreign key (a, a) references nobody": api.BadTable,
		"foreign key (a) references nobody": api.NoTable, "d int references nobody": api.NoTable, "foreign key (a, b) references nobody": api.NoTable, "foreign key (c) references a": api.NoTable,
		// Another number of columns.
		"foreign key (a, b) references n": api.BadForeign, "foreign key (a) references ns": api.BadForeign, "foreign key (a, b, c) references ns": api.BadForeign, "d int references ns": api.BadForeign, "foreign key (a, b) references t": api.BadForeign,
		// A type of another kind.
		"foreign key (b) references n": api.BadForeign, "foreign key (c) references n": api.BadForeign, "foreign key (a) references s": api.BadForeign, "foreign key (c) references s": api.BadForeign, "foreign key (a) references b": api.BadForeign, "foreign key (b) references b": api.BadForeign, "d char references n": api.BadForeign, "foreign key (b) references t": api.BadForeign, "d boolean references t": api.BadForeign,
		"foreign key (b, a) references ns": api.BadForeign, "foreign key (a, c) references ns": api.BadForeign, "foreign key (c, b) references ns": api.BadForeign,
		// Another type of the same kind.
		"d smallint references t": api.Done, "d bigint references t": api.Done, "d char(100) references s": api.Done, "d smallint, e char(1), foreign key (d, e) references ns": api.Done,
		// The first of several.
		"foreign key (a) references nobody, foreign key (x) references n": api.NoTable, "foreign key (b) references n, foreign key (a) references nobody": api.BadForeign, "d char references n, foreign key (x) references n": api.BadForeign, "foreign key (x) references n, d char references n": api.NoColumn,
	} {
		tells(t, "Define", l, "create table t ("+abc+", "+text+")", want)
		tells(t, "Define", l, "create table t ("+text+", "+abc+")", want)
	}
	// The table's own primary key may have several columns, and stand behind what links to it.
	tells(t, "Define", nil, "create table t (foreign key (c, d) references t, a int, b char(2), c smallint, d varchar(9), primary key (a, b))", api.Done)
	tells(t, "Define", nil, "create table t (foreign key (d, c) references t, a int, b char(2), c smallint, d varchar(9), primary key (a, b))", api.BadForeign)
	// It is the primary key that counts, not what else is unique there, nor what the table's first columns are.
	tells(t, "Define", l, "create table t (a int primary key, b boolean, foreign key (b) references ns)", api.BadForeign)
	tells(t, "Define", l, "create table t (a int primary key references s)", api.BadForeign)
}

func TestDefineChecks(t *testing.T) {
	for text, want := range map[string][]string{
		"check (a > 0)":        {"a > 0"},
		"d int check (d = a)":  {"d = a"},
		"check (a), check (a)": {"a", "a"},
		"check (1 = 1), d int check (d > 0) not null check (d < 9) unique check (d is null), check (c), e int, check (e = d), f int check (f in (1, 2))": {"1 = 1", "d > 0", "d < 9", "d is null", "c", "e = d", "f in (1, 2)"},
		// Whether a condition may be is not asked here.
		"check (x), check (1), check (t.a + 'x' = null), check (exists (select 1 from nobody)), check (count(*) = 1), check ((select a from t))": {"x", "1", "t.a + 'x' = null", "exists (select 1 from nobody)", "count(*) = 1", "(select a from t)"},
		"check (case a when 1 then c when 2 then not c end)": {"case a when 1 then c when 2 then not c end"},
	} {
		var trees []api.Node
		for _, s := range want {
			trees = append(trees, condition(t, s))
		}
		if x := tells(t, "Define", nil, "create table t ("+abc+", "+text+")", api.Done); !alike(api.Table{Checks: x.Checks}, api.Table{Checks: trees}) {
			t.Errorf("P15.1: C2: checks of %s: %+v, not %+v", text, x.Checks, trees)
		}
	}
	if x := tells(t, "Define", nil, "create table t ("+abc+")", api.Done); len(x.Checks) != 0 || len(x.Links) != 0 {
		t.Errorf("P15.1: C2: %+v", x)
	}
}
