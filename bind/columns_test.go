package bind

import (
	"testing"

	"stile/api"
)

func TestColumns(t *testing.T) {
	l := schema(t)
	for text, want := range map[string]api.State{
		"select a from t": api.Done, "select t.a from t": api.Done, "select z from t": api.NoColumn, "select t.z from t": api.NoColumn, "select u.a from t": api.NoColumn, "select t from t": api.NoColumn, "select a.t from t": api.NoColumn,
		"select a from t, u": api.Ambiguous, "select t.a, u.a, b, d from t, u": api.Done, "select u.b from t, u": api.NoColumn, "select t.d from t, u": api.NoColumn, "select x.a from t x, u": api.Done, "select t.a from t x, u": api.NoColumn, "select t.d from u t": api.Done, "select t.b from u t": api.NoColumn,
		"select x.a, y.a from t x, t y": api.Done, "select a from t x, t y": api.Ambiguous, "select b from t x, u y": api.Done,
		// Names that are there twice within one alias.
		"select x.k from (select 1 as k, 'x' as k from t) x": api.Done, "select k from (select 1 as k, 'x' as k from t) x": api.Ambiguous, "select x.k + 1 from (select 1 as k, 'x' as k from t) x": api.Done, "select x.k || 'x' from (select 1 as k, 'x' as k from t) x": api.Mismatch, "select x.k || 'x' from (select 'x' as k, 1 as k from t) x": api.Done, "select x.a from (select * from t, u) x": api.Done, "select x.b, d from (select * from t, u) x": api.Done,
		// The innermost scope that has it, without asking the ones around it.
		"select 1 from t where exists (select a from u)": api.Done, "select 1 from t, u where exists (select a from v)": api.Ambiguous, "select 1 from t, u where exists (select a from u)": api.Done, "select 1 from u where exists (select a from t, u)": api.Ambiguous, "select 1 from t where exists (select b from u)": api.Done, "select 1 from t where exists (select z from u)": api.NoColumn, "select 1 from t where exists (select 1 from u) and d = 1": api.NoColumn,
		// An alias hides another one's, whole.
		"select 1 from t where exists (select t.b from t)": api.Done, "select 1 from t where exists (select t.b from u t)": api.NoColumn, "select 1 from t where exists (select t.d from u t)": api.Done, "select 1 from t where exists (select t.b from u)": api.Done, "select 1 from t where exists (select 1 from u t where exists (select t.b from v))": api.NoColumn, "select 1 from t where exists (select 1 from u t where exists (select t.d from v))": api.Done, "select 1 from t where exists (select 1 from u t where exists (select t.b from t))": api.Done, "select 1 from t where exists (select 1 from u where exists (select t.b from v t))": api.NoColumn, "select 1 from t where exists (select 1 from u t where exists (select b from v))": api.Done,
	} {
		queryIs(t, l, text, want)
	}
	partIs(t, l, "select x.k, x.j from (select 1 as k, 2 as j, 3 as k, 4 as j from t) x", "items", "items (item k (slot 0), item j (slot 1))")
	partIs(t, l, "select e, t.c, d, u.a from t, u, v", "items", "items (item e (slot 5), item c (slot 2), item d (slot 4), item a (slot 3))")
}

func TestScopesAround(t *testing.T) {
	l := schema(t)
	tree := queryIs(t, l, `select 1 from t, v where exists (
		select 1 from u, t x where exists (
			select 1 from w, v y where exists (
				select w12 + h + x.a + d + v.h + t.a + y.e from t z))
			and d = e and x.a = t.a)
		and e = t.a`, api.Done)
	text := func(n api.Node) string { return show(n.L[0]) }
	first := tree.L[0]
	second := part(t, first, "where").L[0].L[0].L[0]
	third := part(t, second, "where").L[0].L[0].L[0].L[0]
	fourth := part(t, third, "where").L[0].L[0]
	if got := text(part(t, fourth, "items").L[0]); got != "+ (+ (+ (+ (+ (+ (slot 1011, slot 1015), slot 2002), slot 2001), slot 3006), slot 3000), slot 1012)" {
		t.Errorf("P16.1: B2: %s", got)
	}
	if got := show(part(t, second, "where").L[0].L[0].L[1]); got != "= (slot 1, slot 1003)" {
		t.Errorf("P16.1: B2: %s", got)
	}
	if got := show(part(t, second, "where").L[0].L[1]); got != "= (slot 2, slot 1000)" {
		t.Errorf("P16.1: B2: %s", got)
	}
	if got := show(part(t, first, "where").L[0].L[1]); got != "= (slot 3, slot 0)" {
		t.Errorf("P16.1: B2: %s", got)
	}
	// Both sides of what is put together have the same scopes around them.
	partIs(t, l, "select 1 from t where a in (select d from u where b = 'x' union (select h from v where c except select u.a from u where u.a = t.a))", "where",
		"where (in query (slot 0, union (select (items (item d (slot 1)), from (table u 2), where (= (slot 1001, text x)), group, having, totals, grouped), except (select (items (item h (slot 3)), from (table v 4), where (slot 1002), group, having, totals, grouped), select (items (item a (slot 0)), from (table u 2), where (= (slot 0, slot 1000)), group, having, totals, grouped)))))")
}

// A table's name, an alias, a column's name: just as they are, of any length.
func TestLongNames(t *testing.T) {
	name := ""
	for len(name) < api.MaxName {
		name += "n"
	}
	l := schemaOf(t, "create table "+name+" ("+name+" int primary key)", "create table "+name[1:]+" ("+name[1:]+" char primary key)")
	columnsAre(t, l, "select "+name+", "+name[1:]+" from "+name+", "+name[1:], name+" n, "+name[1:]+" x")
	columnsAre(t, l, "select "+name+"."+name[1:]+" from "+name[1:]+" "+name, name[1:]+" x")
	queryIs(t, l, "select "+name[2:]+" from "+name, api.NoColumn)
	queryIs(t, l, "select 1 from "+name[2:], api.NoTable)
}
