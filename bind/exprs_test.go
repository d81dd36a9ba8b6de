package bind

import (
	"testing"

	"stile/api"
)

func TestExpr(t *testing.T) {
	l := schema(t)
	x := table(t, l, "t")
	for text, want := range map[string]struct {
		kind api.Kind
		tree string
	}{
		"a": {api.Num, "slot 0"}, "t.b": {api.Text, "slot 1"}, "c": {api.Bool, "slot 2"}, "null": {api.Null, "null"}, "7": {api.Num, "num 7"}, "'y'": {api.Text, "text y"}, "true": {api.Bool, "bool 1"}, "t.a + 1": {api.Num, "+ (slot 0, num 1)"}, "b || 'x'": {api.Text, "|| (slot 1, text x)"},
		"exists (select 1 from u where u.a = t.a)":  {api.Bool, "exists (select (items (item ? (num 1)), from (table u 2), where (= (slot 0, slot 1000)), group, having, totals, grouped))"},
		"(select max(d) from u where u.a = t.a)":    {api.Num, "scalar (select (items (item ? (slot 0)), from (table u 2), where (= (slot 0, slot 1000)), group, having, totals (max (slot 1)), grouped 1))"},
		"a in (select a from u)":                    {api.Bool, "in query (slot 0, select (items (item a (slot 0)), from (table u 2), where, group, having, totals, grouped))"},
		"b <> all (select b from t where c)":        {api.Bool, "all <> (slot 1, select (items (item b (slot 1)), from (table t 3), where (slot 2), group, having, totals, grouped))"},
		"a in (1, t.a, null)":                       {api.Bool, "in (slot 0, num 1, slot 0, null)"},
		"not b like 'x' and a between 1 and 2 or c": {api.Bool, "or (and (not (like (slot 1, text x)), between (slot 0, num 1, num 2)), slot 2)"},
		"c is not unknown":                          {api.Bool, "not (is unknown (slot 2))"},
		"case when c then nullif(a, 1) end":         {api.Num, "case (when (slot 2, nullif (slot 0, num 1)), null)"},
		"cast(a as varchar(3))":                     {api.Text, "cast (type varchar 3, slot 0)"},
	} {
		if got := show(exprIs(t, l, x, text, api.Done, want.kind)); got != want.tree {
			t.Errorf("P16.1: B3: %s: %s, not %s", text, got, want.tree)
		}
	}
	for text, want := range map[string]api.State{
		"z": api.NoColumn, "u.a": api.NoColumn, "t.z": api.NoColumn, "a + b": api.Mismatch, "exists (select 1 from x)": api.NoTable, "exists (select 1 from t, t)": api.TwoTables, "exists (select a from t, u)": api.Ambiguous, "(select a, d from u)": api.Syntax, "exists (select b from t group by c)": api.Grouping,
		"count(*)": api.Grouping, "max(a) = 1": api.Grouping, "sum(a)": api.Grouping, "a in (select d from u where count(*) = 1)": api.Grouping, "min(z)": api.NoColumn, "z + min(a)": api.NoColumn, "min(a) + z": api.Grouping, "b + min(a)": api.Grouping, "a + b + min(a)": api.Mismatch, "min(a + b)": api.Mismatch, "count(count(z))": api.NoColumn, "count(count(a)) + z": api.Grouping,
	} {
		exprIs(t, l, x, text, want, api.Null)
	}
	exprIs(t, l, x, "exists (select count(*) from u having max(d) > 1)", api.Done, api.Bool)
	exprIs(t, l, x, "a = (select count(*) from u where d = a)", api.Done, api.Bool)
	// The table need not be one of the schema, and queries see just the schema's.
	exprIs(t, nil, x, "a + 1", api.Done, api.Num)
	exprIs(t, nil, x, "exists (select 1 from t)", api.NoTable, api.Null)
	exprIs(t, l, api.Table{}, "a", api.NoColumn, api.Null)
	exprIs(t, l, api.Table{}, "1", api.Done, api.Num)
	exprIs(t, l, api.Table{Name: "q", Columns: x.Columns}, "q.a", api.Done, api.Num)
	exprIs(t, l, api.Table{Name: "q", Columns: x.Columns}, "t.a", api.NoColumn, api.Null)
	exprIs(t, l, api.Table{Name: "q", Columns: x.Columns}, "exists (select 1 from t where q.a = t.a)", api.Done, api.Bool)
}

func TestCheck(t *testing.T) {
	l := schema(t)
	x := table(t, l, "t")
	for text, want := range map[string]api.State{
		"a > 0": api.Done, "t.a > 0 and b like 'x'": api.Done, "c": api.Done, "null": api.Done, "true": api.Done, "coalesce(null, null)": api.Done, "a": api.Mismatch, "b": api.Mismatch, "1": api.Mismatch, "'x'": api.Mismatch, "a + 1": api.Mismatch, "a = b": api.Mismatch, "z": api.NoColumn, "z = 1": api.NoColumn, "u.a = 1": api.NoColumn, "a + z": api.NoColumn, "a in (1, 2)": api.Done, "a in (1, b)": api.Mismatch, "case when c then a end": api.Mismatch, "case when c then c end": api.Done,
		"exists (select 1 from t)": api.Syntax, "a in (select a from t)": api.Syntax, "a = any (select a from t)": api.Syntax, "a = all (select a from t)": api.Syntax, "(select a from t) = 1": api.Syntax, "(select c from t)": api.Syntax, "exists (select 1 from t union select 2 from t)": api.Syntax, "exists (select 1 from t except select 2 from t)": api.Syntax, "exists (select 1 from t intersect select 2 from t)": api.Syntax,
		"count(*) > 1": api.Syntax, "count(a) > 1": api.Syntax, "sum(a) > 1": api.Syntax, "min(a) > 1": api.Syntax, "max(c)": api.Syntax,
		// Ahead of all else.
		"z = 1 and count(*) > 1": api.Syntax, "a = b or exists (select 1 from x)": api.Syntax, "a + max(z)": api.Syntax, "count(*)": api.Syntax, "(select a from t)": api.Syntax, "case when z then a + b else (select y from x) end": api.Syntax, "cast(a + b as char(0)) = coalesce(1, 'x', nullif(z, min(z)))": api.Syntax, "not (c and (c or (c and a in (1, 2, count(*)))))": api.Syntax, "case sum(a) when 1 then 2 end": api.Syntax, "case a when 1 then 2 when 2 then count(*) end": api.Syntax,
	} {
		checkIs(t, x, text, want)
	}
	if got := show(checkIs(t, x, "t.a > 0 and not c", api.Done)); got != "and (> (slot 0, num 0), not (slot 2))" {
		t.Errorf("P16.1: B3: %s", got)
	}
	checkIs(t, api.Table{}, "true", api.Done)
	checkIs(t, api.Table{}, "a", api.NoColumn)
	// What an index, a link or another check of the table is does not matter.
	checkIs(t, api.Table{Name: "t", Columns: x.Columns, Checks: []api.Node{condition(t, "z")}, Links: []api.Link{{Cols: []int{9}, Table: "x"}}}, "a = 1", api.Done)
}

// The tables of a schema may have types that are not right: of their columns' kinds nothing is known.
func TestTypesThatAreNotRight(t *testing.T) {
	l := []api.Table{{Name: "t", Columns: []api.Column{{Name: "a", Type: api.Type{Base: api.Integer, Len: 1}}, {Name: "b", Type: api.Type{Base: 99}}, {Name: "c", Type: api.Type{Base: api.Char}}, {Name: "d", Type: api.Type{Base: api.Small}}}}}
	columnsAre(t, l, "select * from t where a and b = 'x' and c = 1 and a = b", "a ?, b ?, c ?, d n")
	exprIs(t, l, l[0], "a + 1", api.Done, api.Num)
}
