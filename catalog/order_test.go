package catalog

import (
	"slices"
	"strings"
	"testing"

	"stile/api"
)

// draft is a statement that defines a table, as long as it may be made wrong, and how many tables there are ahead of it.
type draft struct {
	tables                 int
	name                   string
	columns, primary, rest []string
}

func plain() *draft {
	return &draft{tables: 3, name: "t", columns: []string{"a int", "b char(3)"}, primary: []string{"primary key (a)"}, rest: []string{"check (nobody)"}}
}

// texts are the draft's statement, its elements in all orders in which those of one sort stay beside one another.
func (d *draft) texts() []string {
	sorts := [][]string{d.columns, d.primary, d.rest}
	var out []string
	for _, order := range [][3]int{{0, 1, 2}, {0, 2, 1}, {1, 0, 2}, {1, 2, 0}, {2, 0, 1}, {2, 1, 0}} {
		all := slices.Concat(sorts[order[0]], sorts[order[1]], sorts[order[2]])
		out = append(out, "create table "+d.name+" ("+strings.Join(all, ", ")+")")
	}
	return out
}

// wrong is a way in which a draft may be wrong, the step of C2 that finds it, and what it is answered.
type wrong struct {
	step  int
	state api.State
	what  string
	do    func(d *draft)
}

func (d *draft) addRest(elements ...string) { d.rest = append(d.rest, elements...) }

// wrongs are all ways, by their steps.
func wrongs() []wrong {
	rest := func(elements ...string) func(*draft) {
		return func(d *draft) { d.addRest(elements...) }
	}
	more := func(elements ...string) func(*draft) {
		return func(d *draft) { d.columns = append(d.columns, elements...) }
	}
	key := func(elements ...string) func(*draft) {
		return func(d *draft) { d.primary = elements }
	}
	return []wrong{
		{1, api.TwoTables, "its name is there", func(d *draft) { d.name = "x1" }},
		{1, api.TooLarge, "there are 8 tables", func(d *draft) { d.tables = api.MaxTables }},
		{2, api.TwoColumns, "a column twice", more("a int")},
		{2, api.BadTable, "a type that is not right", more("c varchar(101)")},
		{2, api.TooLarge, "13 columns", more(strings.Split(numbered(11, "c# int"), ", ")...)},
		{2, api.BadTable, "no columns", func(d *draft) { d.columns = nil }},
		{3, api.BadTable, "no primary key", key()},
		{3, api.BadTable, "two primary keys", key("primary key (a)", "primary key (b)")},
		{3, api.NoColumn, "a primary key of no column", key("primary key (a, x)")},
		{3, api.BadTable, "a primary key of a column twice", key("primary key (b, b)")},
		{4, api.NoColumn, "a unique of no column", rest("unique (x)")},
		{4, api.BadTable, "a unique of a column twice", rest("unique (b, b)")},
		{4, api.TooLarge, "7 indexes", rest(slices.Repeat([]string{"unique (a)"}, 6)...)},
		{5, api.NoColumn, "a link of no column", rest("foreign key (x) references x0")},
		{5, api.BadTable, "a link of a column twice", rest("foreign key (a, a) references x0")},
		{5, api.NoTable, "a link to no table", rest("foreign key (a) references nobody")},
		{5, api.BadForeign, "a link of another number of columns", rest("foreign key (a, b) references x0")},
		{5, api.BadForeign, "a link of another kind", rest("foreign key (b) references x0")},
	}
}

// Each way alone, and beside each way of each later step, and beside one of every later step at once, wherever their elements stand.
func TestDefineFirstFault(t *testing.T) {
	ask := func(want wrong, beside ...wrong) {
		t.Helper()
		d := plain()
		want.do(d)
		for _, other := range beside {
			other.do(d)
		}
		l := manyTables(t, d.tables)
		for _, text := range d.texts() {
			if x, state := Define(l, read(t, text)); state != want.state || !nothing(x) {
				t.Errorf("P15.1: C2: %s comes first: %s: %+v, %s, not %s", want.what, text, x, state, want.state)
			}
		}
	}
	all := wrongs()
	for i, first := range all {
		ask(first)
		lasts := map[int]wrong{}
		for _, later := range all[i+1:] {
			if later.step > first.step {
				ask(first, later)
				lasts[later.step] = later
			}
		}
		var beside []wrong
		for step := first.step + 1; step <= 5; step++ {
			beside = append(beside, lasts[step])
		}
		ask(first, beside...)
	}
	d := plain()
	for _, text := range d.texts() {
		tells(t, "Define", manyTables(t, d.tables), text, api.Done)
	}
}

// A step is done wholly ahead of the next one, whichever element stands first: also where options of columns are wrong.
func TestDefineStepsOfOptions(t *testing.T) {
	l := schemaOf(t, "create table x (a int primary key)")
	for text, want := range map[string]api.State{
		"a int primary key references nobody, b char(0)":                                api.BadTable,
		"a int primary key references nobody, a int":                                    api.TwoColumns,
		"a char references x, b int":                                                    api.BadTable,
		"a char references x, b int primary key, unique (y)":                            api.NoColumn,
		"a int references nobody unique unique unique unique unique unique primary key": api.TooLarge,
		"a int references nobody unique unique unique unique unique primary key":        api.NoTable,
		"a char references x references nobody primary key":                             api.BadForeign,
		"a char references nobody references x primary key":                             api.NoTable,
		"unique (b), a int primary key, a int":                                          api.TwoColumns,
		"foreign key (b) references x, unique (a, a), a int primary key":                api.BadTable,
		"foreign key (a, a) references x, unique (b), a int primary key":                api.NoColumn,
		"a int primary key, foreign key (a) references t, b boolean, unique (a, b, c)":  api.NoColumn,
		"unique (c), primary key (b), a int primary key":                                api.BadTable,
		"unique (c), primary key (b), a int":                                            api.NoColumn,
		"unique (c), primary key (a, a), a int":                                         api.BadTable,
		"check (x), foreign key (a) references x, unique (a), primary key (a), a char":  api.BadForeign,
		"check (x), foreign key (a) references x, unique (a), primary key (a), a int":   api.Done,
	} {
		tells(t, "Define", l, "create table t ("+text+")", want)
	}
}
