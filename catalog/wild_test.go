package catalog

import (
	"math"
	"math/rand"
	"slices"
	"strings"
	"testing"

	"stile/api"
	"stile/parse"
)

// wild is a tree of any form, that Parse need not tell.
func (m *maker) wild(depth int) api.Node {
	n := api.Node{
		Op: m.one("create table", "create index", "column", "column", "column", "type", "primary", "unique", "notnull", "check", "references", "foreign", "name", "name", "on", "num", ""),
		S:  m.one("", "a", "b", "c", "t", "u", "i", "integer", "char", "boolean", "\x00\xff"),
		N:  []int64{0, 0, 1, 2, 100, 101, -1, math.MaxInt64, math.MinInt64}[m.r.Intn(9)],
	}
	for depth > 0 && m.r.Intn(4) > 0 && len(n.L) < 9 {
		n.L = append(n.L, m.wild(depth-1))
	}
	return n
}

// bent is a tree that may be told, with some of its parts left out, put in or changed.
func (m *maker) bent(n api.Node) api.Node {
	n = deepTree(n)
	for at := 0; at < len(n.L); at++ {
		switch m.r.Intn(60) {
		case 0:
			n.L = slices.Delete(n.L, at, at+1)
		case 1:
			n.L = slices.Insert(n.L, at, m.wild(2))
		case 2:
			n.L[at].L = nil
		case 3:
			n.L[at].S = m.one("", "a", "c0", "c1")
		default:
			n.L[at] = m.bent(n.L[at])
		}
	}
	return n
}

// wildTable is a table of any form.
func (m *maker) wildTable() api.Table {
	places := func() []int {
		var out []int
		for m.r.Intn(3) > 0 {
			out = append(out, []int{0, 1, 2, -1, 12, math.MaxInt, math.MinInt}[m.r.Intn(7)])
		}
		return out
	}
	t := api.Table{Name: m.one("", "a", "b", "t", "u")}
	for m.r.Intn(4) > 0 && len(t.Columns) < 20 {
		t.Columns = append(t.Columns, api.Column{Name: m.one("", "a", "b", "c"), Type: api.Type{Base: api.Base(m.r.Intn(9) - 1), Len: m.r.Intn(3)}, NotNull: m.rarely(2)})
	}
	for m.r.Intn(3) > 0 {
		t.Indexes = append(t.Indexes, api.Index{Name: m.one("", "i", "j"), Cols: places(), Unique: m.rarely(2)})
	}
	for m.r.Intn(3) > 0 {
		t.Links = append(t.Links, api.Link{Cols: places(), Table: m.one("", "a", "b", "t", "u")})
	}
	return t
}

// What is handed in need not be such as the layers ahead tell it: each call ends, none panics, and what comes of a right schema is well-formed.
func TestWild(t *testing.T) {
	m := &maker{rand.New(rand.NewSource(16))}
	right := schemaOf(t, "create table a (a int primary key)", "create table b (a int, c char(3), primary key (c, a))", "create index i on b (a)", "create table c (c0 boolean primary key references c)")
	made := 0
	for range 8000 {
		if t.Failed() {
			return
		}
		n := m.wild(3)
		switch m.r.Intn(4) {
		case 0:
			n = m.bent(m.define())
		case 1:
			n = m.bent(m.createIndex())
		}
		for call := range calls() {
			x, state := asked(t, call, right, n)
			if state != api.Done || call == "DropTable" || call == "DropIndex" {
				continue
			}
			made++
			if why := illFormed(x); why != "" {
				t.Fatalf("P15.2: %s of %+v: %s is wrong: %+v", call, n, why, x)
			}
		}
		var l []api.Table
		for range m.r.Intn(4) {
			l = append(l, m.wildTable())
		}
		for call := range calls() {
			asked(t, call, l, n)
		}
		name := m.one("", "a", "t", "zz")
		Find(l, name)
		With(l, m.wildTable())
		Without(l, name)
	}
	if made < 300 {
		t.Errorf("%d tables alone came of it: the trees are too wild", made)
	}
}

// A tree may stand in itself.
func TestRound(t *testing.T) {
	for _, op := range []string{"create table", "create index", "column", "primary", "unique", "check", "foreign", "on", "name", "type"} {
		n := api.Node{Op: op, S: "t", L: []api.Node{{Op: "column", S: "a", L: []api.Node{{Op: "type", S: "integer"}, {Op: "primary"}}}, {}}}
		n.L[1] = n
		for _, call := range calls() {
			call(nil, n)
			call([]api.Table{{Name: "t", Checks: n.L}}, n)
		}
	}
}

// A condition in which lists of parts stand at very many places is taken as it stands.
func TestDefineLargeCheck(t *testing.T) {
	cases := "a"
	for range 6 {
		cases = "case " + cases + strings.Repeat(" when 1 then 2", 20) + " end"
	}
	n, state := parse.Parse("create table t (a int primary key, check (" + cases + " = 1))")
	if state != api.Done {
		t.Fatalf("no statement: %s", state)
	}
	x, state := Define(nil, n)
	if state != api.Done || len(x.Checks) != 1 || &x.Checks[0].L[0] != &n.L[1].L[0].L[0] {
		t.Errorf("P15.1: C2: a condition of many parts: %s, %d conditions", state, len(x.Checks))
	}
	l := With(nil, x)
	found, _ := Find(l, "t")
	indexed, state := Index(l, read(t, "create index i on t (a)"))
	if state != api.Done || len(found.Checks) != 1 || len(indexed.Checks) != 1 || len(Without(l, "u")) != 1 {
		t.Errorf("P1: a condition of many parts: %s", state)
	}
}

// Define reads names as they stand, of any length that a statement may have.
func TestDefineLongNames(t *testing.T) {
	name := strings.Repeat("n", api.MaxName)
	x := tells(t, "Define", nil, "create table "+name+" ("+name+" int primary key references "+name+", check ("+name+" > 0))", api.Done)
	if x.Name != name || x.Columns[0].Name != name || x.Links[0].Table != name {
		t.Errorf("P15.1: C2: %+v", x)
	}
}

// FuzzDefine: whatever is parsed ends in a state, and what comes of it is well-formed.
func FuzzDefine(f *testing.F) {
	for _, text := range []string{
		"create table t (a int primary key, b int unique references t)", "create table u (a char(3) not null, b varchar(9), primary key (b, a), foreign key (a) references t, check (a > b))",
		"create unique index i on t (b, a)", "drop table t", "drop index i",
	} {
		f.Add(text)
	}
	l := With(nil, api.Table{Name: "t", Columns: columns(must("a", integer), column("b", integer)), Indexes: keys([]int{0})})
	f.Fuzz(func(t *testing.T, text string) {
		n, state := parse.Parse(text)
		if state != api.Done {
			return
		}
		for name, call := range calls() {
			x, state := call(l, n)
			if why := illFormed(x); state == api.Done && (name == "Define" || name == "Index") && why != "" {
				t.Errorf("P15.2: %s: %s: %s is wrong: %+v", name, text, why, x)
			}
			if state != api.Done && !nothing(x) {
				t.Errorf("P15.1: %s: %s: a table beside %s", name, text, state)
			}
		}
	})
}
