package catalog

import (
	"math"
	"math/rand"
	"slices"
	"strconv"
	"testing"

	"stile/api"
	"stile/types"
)

// The chapter once more, as it reads: each step by itself, told by states that are handed back.

var modelBases = map[string]api.Base{"smallint": api.Small, "integer": api.Integer, "bigint": api.Big, "char": api.Char, "varchar": api.Varchar, "boolean": api.Boolean}

// said is what a definition says beside its columns: of which columns, and of which table or tree.
type said struct {
	op    string
	names []string
	table string
	check []api.Node
}

// modelSaid are all elements but columns, a column's options where it stands.
func modelSaid(n api.Node) []said {
	var out []said
	for _, e := range n.L {
		if e.Op == "column" {
			for _, o := range e.L[1:] {
				out = append(out, said{o.Op, []string{e.S}, o.S, o.L})
			}
			continue
		}
		s := said{op: e.Op, table: e.S, check: e.L}
		for _, name := range e.L {
			s.names = append(s.names, name.S)
		}
		out = append(out, s)
	}
	return out
}

func modelPlaces(places map[string]int, names []string) ([]int, api.State) {
	var out []int
	seen := map[string]bool{}
	for _, name := range names {
		at, is := places[name]
		if !is {
			return nil, api.NoColumn
		}
		if seen[name] {
			return nil, api.BadTable
		}
		seen[name] = true
		out = append(out, at)
	}
	return out, api.Done
}

func modelFind(l []api.Table, name string) *api.Table {
	for i := range l {
		if l[i].Name == name {
			return &l[i]
		}
	}
	return nil
}

func modelColumns(x *api.Table, n api.Node, places map[string]int) api.State {
	for _, e := range n.L {
		if e.Op != "column" {
			continue
		}
		if _, is := places[e.S]; is {
			return api.TwoColumns
		}
		kind := api.Type{Base: modelBases[e.L[0].S], Len: int(e.L[0].N)}
		if !types.Right(kind) {
			return api.BadTable
		}
		if len(places) == 12 {
			return api.TooLarge
		}
		places[e.S] = len(x.Columns)
		x.Columns = append(x.Columns, api.Column{Name: e.S, Type: kind})
	}
	if len(x.Columns) == 0 {
		return api.BadTable
	}
	return api.Done
}

func modelKeys(x *api.Table, all []said, places map[string]int) api.State {
	count := 0
	for _, s := range all {
		if s.op == "primary" {
			count++
		}
	}
	if count != 1 {
		return api.BadTable
	}
	for _, op := range []string{"primary", "unique"} {
		for _, s := range all {
			if s.op != op {
				continue
			}
			cols, state := modelPlaces(places, s.names)
			if state != api.Done {
				return state
			}
			if len(x.Indexes) == 6 {
				return api.TooLarge
			}
			x.Indexes = append(x.Indexes, api.Index{Cols: cols, Unique: true})
		}
	}
	for _, s := range all {
		for _, name := range s.names {
			if s.op == "primary" || s.op == "notnull" {
				x.Columns[places[name]].NotNull = true
			}
		}
	}
	return api.Done
}

func modelLinks(l []api.Table, x *api.Table, all []said, places map[string]int) api.State {
	for _, s := range all {
		if s.op != "references" && s.op != "foreign" {
			continue
		}
		cols, state := modelPlaces(places, s.names)
		if state != api.Done {
			return state
		}
		to := modelFind(l, s.table)
		if s.table == x.Name {
			to = x
		}
		if to == nil {
			return api.NoTable
		}
		if len(cols) != len(to.Indexes[0].Cols) {
			return api.BadForeign
		}
		for i, at := range cols {
			if types.KindOf(x.Columns[at].Type) != types.KindOf(to.Columns[to.Indexes[0].Cols[i]].Type) {
				return api.BadForeign
			}
		}
		x.Links = append(x.Links, api.Link{Cols: cols, Table: s.table})
	}
	return api.Done
}

func modelDefine(l []api.Table, n api.Node) (api.Table, api.State) {
	if modelFind(l, n.S) != nil {
		return api.Table{}, api.TwoTables
	}
	if len(l) == 8 {
		return api.Table{}, api.TooLarge
	}
	x, all, places := api.Table{Name: n.S}, modelSaid(n), map[string]int{}
	for _, step := range []func() api.State{
		func() api.State { return modelColumns(&x, n, places) },
		func() api.State { return modelKeys(&x, all, places) },
		func() api.State { return modelLinks(l, &x, all, places) },
	} {
		if state := step(); state != api.Done {
			return api.Table{}, state
		}
	}
	for _, s := range all {
		if s.op == "check" {
			x.Checks = append(x.Checks, s.check[0])
		}
	}
	return x, api.Done
}

func modelIndex(l []api.Table, n api.Node) (api.Table, api.State) {
	found := modelFind(l, n.L[0].S)
	if found == nil {
		return api.Table{}, api.NoTable
	}
	for _, t := range l {
		for _, index := range t.Indexes {
			if index.Name == n.S {
				return api.Table{}, api.TwoTables
			}
		}
	}
	x, places, names := deep(*found), map[string]int{}, []string{}
	for at, c := range x.Columns {
		places[c.Name] = at
	}
	for _, name := range n.L[1:] {
		names = append(names, name.S)
	}
	cols, state := modelPlaces(places, names)
	if state == api.Done && len(x.Indexes) == 6 {
		state = api.TooLarge
	}
	if state != api.Done {
		return api.Table{}, state
	}
	x.Indexes = append(x.Indexes, api.Index{Name: n.S, Cols: cols, Unique: n.N == 1})
	return x, api.Done
}

func modelDropTable(l []api.Table, n api.Node) (api.Table, api.State) {
	if modelFind(l, n.S) == nil {
		return api.Table{}, api.NoTable
	}
	for _, t := range l {
		for _, link := range t.Links {
			if t.Name != n.S && link.Table == n.S {
				return api.Table{}, api.InUse
			}
		}
	}
	return api.Table{}, api.Done
}

func modelDropIndex(l []api.Table, n api.Node) (api.Table, api.State) {
	for _, t := range l {
		for at, index := range t.Indexes {
			if index.Name == n.S {
				x := deep(t)
				x.Indexes = slices.Delete(x.Indexes, at, at+1)
				return x, api.Done
			}
		}
	}
	return api.Table{}, api.NoIndex
}

// illFormed is what of a table is not as P15.2 says, or nothing.
func illFormed(t api.Table) string {
	for i, c := range t.Columns {
		if !types.Right(c.Type) {
			return "a type"
		}
		if slices.ContainsFunc(t.Columns[:i], func(ahead api.Column) bool { return ahead.Name == c.Name }) {
			return "two columns"
		}
	}
	if len(t.Columns) < 1 || len(t.Columns) > 12 {
		return "the number of columns"
	}
	if len(t.Indexes) < 1 || len(t.Indexes) > 6 {
		return "the number of indexes"
	}
	var places [][]int
	for _, index := range t.Indexes {
		places = append(places, index.Cols)
	}
	for _, link := range t.Links {
		places = append(places, link.Cols)
	}
	for _, cols := range places {
		for i, at := range cols {
			if at < 0 || at >= len(t.Columns) || slices.Contains(cols[:i], at) {
				return "a place"
			}
		}
	}
	for _, at := range t.Indexes[0].Cols {
		if !t.Columns[at].NotNull {
			return "a primary key that may be null"
		}
	}
	if t.Indexes[0].Name != "" || !t.Indexes[0].Unique {
		return "the primary key"
	}
	return ""
}

// maker makes trees.
type maker struct {
	r *rand.Rand
}

func (m *maker) one(of ...string) string { return of[m.r.Intn(len(of))] }

// rarely is true once in n times.
func (m *maker) rarely(n int) bool { return m.r.Intn(n) == 0 }

// names are from 1 to n names of columns; few are wrong.
func (m *maker) names(n int) []api.Node {
	var out []api.Node
	for _, at := range m.r.Perm(4)[:1+m.r.Intn(n)] {
		out = append(out, api.Node{Op: "name", S: "c" + strconv.Itoa(at)})
	}
	if m.rarely(25) {
		out[m.r.Intn(len(out))].S = "x"
	}
	if m.rarely(25) {
		out = append(out, out[0])
	}
	return out
}

func (m *maker) typed() api.Node {
	switch {
	case m.rarely(60):
		return api.Node{Op: "type", S: m.one("char", "varchar"), N: []int64{0, 101, 1 << 32, math.MaxInt64}[m.r.Intn(4)]}
	case m.rarely(3):
		return api.Node{Op: "type", S: m.one("char", "varchar"), N: []int64{1, 2, 99, 100}[m.r.Intn(4)]}
	}
	return api.Node{Op: "type", S: m.one("smallint", "integer", "integer", "bigint", "boolean")}
}

func (m *maker) table() string { return m.one("a", "b", "c", "d", "e", "f", "g", "h", "i", "j") }

func (m *maker) check() api.Node {
	return api.Node{Op: "check", L: []api.Node{{Op: m.one("=", "<"), L: []api.Node{{Op: "col", S: m.one("c0", "x")}, {Op: "num", N: m.r.Int63n(9)}}}}}
}

func (m *maker) column(name string) api.Node {
	n := api.Node{Op: "column", S: name, L: []api.Node{m.typed()}}
	for m.rarely(2) {
		switch m.r.Intn(7) {
		case 0, 1:
			n.L = append(n.L, api.Node{Op: "notnull"})
		case 2, 3:
			n.L = append(n.L, api.Node{Op: "unique"})
		case 4:
			n.L = append(n.L, m.check())
		case 5:
			n.L = append(n.L, api.Node{Op: "references", S: m.table()})
		case 6:
			if m.rarely(6) {
				n.L = append(n.L, api.Node{Op: "primary"})
			}
		}
	}
	return n
}

// define is a tree of `create table`: mostly right, in all ways wrong now and then.
func (m *maker) define() api.Node {
	n := api.Node{Op: "create table", S: m.table()}
	count := 4 + m.r.Intn(3)
	switch {
	case m.rarely(30):
		count = 12 + m.r.Intn(3)
	case m.rarely(40):
		count = 0
	}
	for i := range count {
		n.L = append(n.L, m.column("c"+strconv.Itoa(i)))
	}
	if !m.rarely(20) {
		n.L = append(n.L, api.Node{Op: "primary", L: m.names(2)})
	}
	for m.rarely(2) {
		n.L = append(n.L, []api.Node{
			{Op: "unique", L: m.names(3)}, m.check(), {Op: "foreign", S: m.one(m.table(), n.S), L: m.names(2)}, m.column("c" + strconv.Itoa(m.r.Intn(40))), {Op: "unique", L: m.names(1)},
		}[m.r.Intn(5)])
	}
	m.r.Shuffle(len(n.L), func(i, j int) { n.L[i], n.L[j] = n.L[j], n.L[i] })
	return n
}

func (m *maker) index() string { return m.one("i", "j", "k", "l", "m", "a", "b") }

func (m *maker) createIndex() api.Node {
	on := []api.Node{{Op: "on", S: m.table()}}
	return api.Node{Op: "create index", S: m.index(), N: int64(m.r.Intn(2)), L: append(on, m.names(3)...)}
}

// Scripts of statements made at random are answered as the chapter once more answers them, and all that comes of them is well-formed.
func TestModel(t *testing.T) {
	m := &maker{rand.New(rand.NewSource(15))}
	models := map[string]func([]api.Table, api.Node) (api.Table, api.State){"Define": modelDefine, "Index": modelIndex, "DropTable": modelDropTable, "DropIndex": modelDropIndex}
	seen := map[string]int{}
	for range 700 {
		var l []api.Table
		for range 40 {
			call, n := "Define", m.define()
			switch m.r.Intn(10) {
			case 0, 1:
				call, n = "Index", m.createIndex()
			case 2:
				call, n = "DropIndex", api.Node{Op: "drop index", S: m.index()}
			case 3:
				call, n = "DropTable", api.Node{Op: "drop table", S: m.table()}
			}
			want, state := models[call](l, n)
			x, is := asked(t, call, l, n)
			if is != state || !alike(x, want) {
				t.Fatalf("P15.1: %s of %+v in %+v:\nis  %+v, %s\nnot %+v, %s", call, n, l, x, is, want, state)
			}
			seen[call+" "+string(state)]++
			switch {
			case state == api.Done && call == "DropTable":
				l = Without(l, n.S)
			case state == api.Done:
				if why := illFormed(x); why != "" {
					t.Fatalf("P15.2: %s of %+v: %s is wrong: %+v", call, n, why, x)
				}
				l = With(l, x)
			}
		}
	}
	for call, states := range map[string][]api.State{
		"Define":    {api.Done, api.TwoTables, api.TooLarge, api.TwoColumns, api.BadTable, api.NoColumn, api.NoTable, api.BadForeign},
		"Index":     {api.Done, api.NoTable, api.TwoTables, api.NoColumn, api.BadTable, api.TooLarge},
		"DropTable": {api.Done, api.NoTable, api.InUse}, "DropIndex": {api.Done, api.NoIndex},
	} {
		for _, state := range states {
			if seen[call+" "+string(state)] < 10 {
				t.Errorf("%s: %s was told %d times alone: the trees are too much alike", call, state, seen[call+" "+string(state)])
			}
		}
	}
}
