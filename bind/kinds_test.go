package bind

import (
	"strings"
	"testing"

	"stile/api"
)

// some are expressions of each kind.
var some = map[api.Kind][]string{
	api.Null: {"null", "coalesce(null)", "(select null from u)"},
	api.Num:  {"1", "a", "count(*)"},
	api.Text: {"'x'", "b", "cast(a as char)"},
	api.Bool: {"true", "c", "a = 1"},
}

var kinds = []api.Kind{api.Null, api.Num, api.Text, api.Bool}

// of is whether a kind is that one, or Null.
func of(kind, want api.Kind) bool { return kind == want || kind == api.Null }

func fit(a, b api.Kind) bool { return a == b || a == api.Null || b == api.Null }

func both(a, b api.Kind) api.Kind {
	if a == api.Null {
		return b
	}
	return a
}

// kindIs tells a fault, if an expression is not answered so: with the kind, or Mismatch. $1, $2, $3 in it stand for parts of these kinds.
func kindIs(t *testing.T, text string, parts []api.Kind, right bool, kind api.Kind) {
	t.Helper()
	l := schema(t)
	x := table(t, l, "t")
	for at := range 3 {
		out := text
		for i, part := range parts {
			out = strings.ReplaceAll(out, "$"+string(rune('1'+i)), some[part][(at+i)%len(some[part])])
		}
		state := api.Done
		if !right {
			state, kind = api.Mismatch, api.Null
		}
		if !strings.Contains(out, "count") {
			exprIs(t, l, x, out, state, kind)
		}
		query := "select " + out + ", count(*) from t group by a, b, c"
		queryIs(t, l, query, state)
		if right {
			columnsAre(t, l, query, calledLike(out)+letter(kind)+", ? n")
		}
	}
}

// calledLike is what an item of a text is called.
func calledLike(text string) string {
	if text = strings.Trim(text, "()"); len(text) == 1 && text >= "a" && text <= "c" {
		return text + " "
	}
	return "? "
}

func letter(kind api.Kind) string {
	return map[api.Kind]string{api.Null: "?", api.Num: "n", api.Text: "x", api.Bool: "b"}[kind]
}

func TestKindsOfOne(t *testing.T) {
	for _, k := range kinds {
		one := []api.Kind{k}
		kindIs(t, "$1", one, true, k)
		kindIs(t, "-($1)", one, of(k, api.Num), api.Num)
		kindIs(t, "not ($1)", one, of(k, api.Bool), api.Bool)
		kindIs(t, "($1) is null", one, true, api.Bool)
		kindIs(t, "($1) is not null", one, true, api.Bool)
		for _, word := range []string{"true", "false", "unknown"} {
			kindIs(t, "($1) is "+word, one, of(k, api.Bool), api.Bool)
			kindIs(t, "($1) is not "+word, one, of(k, api.Bool), api.Bool)
		}
		kindIs(t, "coalesce($1)", one, true, k)
	}
}

func TestKindsOfTwo(t *testing.T) {
	for _, k := range kinds {
		for _, j := range kinds {
			two := []api.Kind{k, j}
			for _, sign := range []string{"+", "-", "*", "/"} {
				kindIs(t, "($1) "+sign+" ($2)", two, of(k, api.Num) && of(j, api.Num), api.Num)
			}
			kindIs(t, "($1) || ($2)", two, of(k, api.Text) && of(j, api.Text), api.Text)
			for _, sign := range []string{"=", "<>", "<", "<=", ">", ">="} {
				kindIs(t, "($1) "+sign+" ($2)", two, fit(k, j), api.Bool)
			}
			for _, word := range []string{"and", "or"} {
				kindIs(t, "($1) "+word+" ($2)", two, of(k, api.Bool) && of(j, api.Bool), api.Bool)
			}
			for _, word := range []string{"like", "not like"} {
				kindIs(t, "($1) "+word+" ($2)", two, of(k, api.Text) && of(j, api.Text), api.Bool)
			}
			kindIs(t, "($1) in ($2)", two, fit(k, j), api.Bool)
			kindIs(t, "coalesce($1, $2)", two, fit(k, j), both(k, j))
			kindIs(t, "nullif($1, $2)", two, fit(k, j), k)
			kindIs(t, "case when $1 then $2 end", two, of(k, api.Bool), j)
			kindIs(t, "case $1 when $2 then null end", two, fit(k, j), api.Null)
			kindIs(t, "case when true then $1 else $2 end", two, fit(k, j), both(k, j))
			kindIs(t, "case when $1 then null when $2 then null end", two, of(k, api.Bool) && of(j, api.Bool), api.Null)
		}
	}
}

func TestKindsOfThree(t *testing.T) {
	for _, k := range kinds {
		for _, j := range kinds {
			for _, i := range kinds {
				three := []api.Kind{k, j, i}
				// The second one and the third need not go together.
				kindIs(t, "($1) between ($2) and ($3)", three, fit(k, j) && fit(k, i), api.Bool)
				kindIs(t, "($1) in (null, $2, $3)", three, fit(k, j) && fit(k, i), api.Bool)
				all := fit(k, j) && fit(both(k, j), i)
				kindIs(t, "coalesce($1, $2, $3)", three, all, both(both(k, j), i))
				kindIs(t, "case when true then $1 when false then $2 else $3 end", three, all, both(both(k, j), i))
				kindIs(t, "case $1 when $2 then 1 when $3 then 2 end", three, fit(k, j) && fit(k, i), api.Num)
			}
		}
	}
}

func TestKindsOfTotals(t *testing.T) {
	l := schema(t)
	parts := map[api.Kind][]string{api.Null: {"null", "(select null from u)"}, api.Num: {"1", "t.a", "d", "(select e from v)"}, api.Text: {"b", "'x' || b"}, api.Bool: {"c", "not c", "t.a = d"}}
	for kind, all := range parts {
		for _, part := range all {
			for _, distinct := range []string{"", "all ", "distinct "} {
				for total, is := range map[string]api.Kind{"count": api.Num, "min": kind, "max": kind, "sum": api.Num} {
					text := "select " + total + "(" + distinct + part + ") from t, u"
					if total == "sum" && !of(kind, api.Num) {
						queryIs(t, l, text, api.Mismatch)
						continue
					}
					columnsAre(t, l, text, "? "+letter(is))
				}
			}
		}
	}
	columnsAre(t, l, "select count(*) from t", "? n")
}

func TestKindsOfQueries(t *testing.T) {
	l := schema(t)
	columns := map[api.Kind]string{api.Null: "null", api.Num: "d", api.Text: "'y'", api.Bool: "d = 1"}
	for _, k := range kinds {
		for _, j := range kinds {
			want := api.Mismatch
			if fit(k, j) {
				want = api.Done
			}
			held := some[k][0]
			from := "(select " + columns[j] + " from u)"
			tests := []string{held + " in " + from, held + " not in " + from}
			for _, sign := range []string{"=", "<>", "<", "<=", ">", ">="} {
				for _, word := range []string{"any", "some", "all"} {
					tests = append(tests, held+" "+sign+" "+word+" "+from)
				}
			}
			for _, text := range tests {
				queryIs(t, l, "select 1 from t where "+text, want)
				if want == api.Done {
					columnsAre(t, l, "select "+text+" from t", "? b")
				}
				queryIs(t, l, "select 1 from t where "+strings.ReplaceAll(text, " from u", ", a from u"), api.Syntax)
				queryIs(t, l, "select 1 from t where "+strings.ReplaceAll(text, columns[j]+" from u", "* from u"), api.Syntax)
				queryIs(t, l, "select 1 from t where "+strings.ReplaceAll(text, columns[j]+" from u", "z from u"), api.NoColumn)
			}
		}
		columnsAre(t, l, "select (select "+columns[k]+" from u) from t", "? "+letter(k))
		queryIs(t, l, "select (select "+columns[k]+", 1 from u) from t", api.Syntax)
	}
	for text, want := range map[string]api.State{
		"exists (select * from t, u)": api.Done, "exists (select 1 from u)": api.Done, "exists (select z from u)": api.NoColumn, "exists (select a from t union select a, d from u)": api.Syntax, "exists (select 1 from x)": api.NoTable,
		"(select * from u) = 1": api.Syntax, "(select e from v) = 1": api.Done, "(select e from v) = 'x'": api.Mismatch,
		// What stands ahead of the query first; how many columns ahead of what kinds.
		"z in (select 1 from x)": api.NoColumn, "b + a in (select y from u)": api.Mismatch, "a in (select y from u)": api.NoColumn, "a in (select b, a from t)": api.Syntax, "b = all (select d from u) and z": api.Mismatch, "b = all (select d, d from u) and z": api.Syntax, "z = any (select d, d from u)": api.NoColumn, "(select d, d from u) + z": api.Syntax, "z + (select d, d from u)": api.NoColumn, "(select d, d from u) = 'x'": api.Syntax,
	} {
		queryIs(t, l, "select 1 from t where "+text, want)
	}
}

func TestKindsOfCasts(t *testing.T) {
	targets := map[string]api.Kind{"smallint": api.Num, "int": api.Num, "integer": api.Num, "bigint": api.Num, "boolean": api.Bool, "char": api.Text, "char(1)": api.Text, "char(100)": api.Text, "varchar(1)": api.Text, "varchar(100)": api.Text}
	for target, to := range targets {
		for _, k := range kinds {
			right := !(k == api.Num && to == api.Bool || k == api.Bool && to == api.Num)
			kindIs(t, "cast($1 as "+target+")", []api.Kind{k}, right, to)
		}
	}
	for _, target := range []string{"char(0)", "varchar(0)", "char(101)", "varchar(101)", "char(4294967297)", "varchar(9223372036854775807)"} {
		for _, k := range kinds {
			kindIs(t, "cast($1 as "+target+")", []api.Kind{k}, false, api.Null)
		}
	}
	l := schema(t)
	queryIs(t, l, "select cast(z as char(0)) from t", api.NoColumn)
	queryIs(t, l, "select cast(c as int), z from t", api.Mismatch)
	queryIs(t, l, "select cast(a + b as boolean) from t", api.Mismatch)
	partIs(t, l, "select cast(b as char(7)), cast(null as bigint) from t", "items", "items (item ? (cast (type char 7, slot 1)), item ? (cast (type bigint, null)))")
}

// What a tree asks is asked behind all that is wrong in its parts.
func TestMismatchBehindParts(t *testing.T) {
	l := schema(t)
	for text, want := range map[string]api.State{
		"b + z": api.NoColumn, "(a || b) + z": api.Mismatch, "b + (a || z)": api.NoColumn, "a + (b + 1) + z": api.Mismatch, "a || z": api.NoColumn, "(a = b) and z": api.Mismatch, "(a and z)": api.NoColumn, "a = b and z = 1": api.Mismatch, "not (a = b) or z": api.Mismatch, "a like z": api.NoColumn, "z like a": api.NoColumn, "a between b and z": api.NoColumn, "a in (b, z)": api.NoColumn, "a in (b + 1, z)": api.Mismatch,
		"coalesce(a, b, z)": api.NoColumn, "coalesce(a, b + 1, z)": api.Mismatch, "nullif(a, z)": api.NoColumn, "nullif(z, a + b)": api.NoColumn, "nullif(a + b, z)": api.Mismatch, "-(b || z)": api.NoColumn, "-b || z": api.Mismatch,
		// A CASE asks of its conditions, too, when all of its parts are bound.
		"case when a then z end": api.NoColumn, "case when a then 1 else z end": api.NoColumn, "case when true then 1 when a then 'x' else z end": api.NoColumn, "case when a then 1 end": api.Mismatch, "case when not a then z end": api.Mismatch, "case when true then a + b when z then 1 end": api.Mismatch, "case a when 'x' then z end": api.Mismatch, "case a when z then b + 1 end": api.NoColumn, "case z when a + b then 1 end": api.NoColumn, "case a + b when z then 1 end": api.Mismatch, "case when true then 1 else 'x' end + z": api.Mismatch,
		"(b is true) and z": api.Mismatch, "(z is true) and a": api.NoColumn,
	} {
		queryIs(t, l, "select "+text+" from t", want)
		queryIs(t, l, "select 1 from t where "+text, want)
		exprIs(t, l, table(t, l, "t"), text, want, api.Null)
		checkIs(t, table(t, l, "t"), text, want)
	}
}

// A table without columns, which a schema may be handed with, makes queries of none.
func TestQueriesOfNoColumn(t *testing.T) {
	l := append(schema(t), api.Table{Name: "none"})
	for text, want := range map[string]api.State{
		"exists (select * from none)": api.Done, "(select * from none) = 1": api.Syntax, "(select * from none) is null": api.Syntax, "a in (select * from none)": api.Syntax, "a = any (select * from none)": api.Syntax, "b <> all (select * from none)": api.Syntax, "zz in (select * from none)": api.NoColumn, "exists (select zz from none)": api.NoColumn,
		"exists (select * from none union select * from none)": api.Done, "exists (select * from none union select 1 from none)": api.Syntax, "a in (select * from none, u)": api.Syntax, "a in (select 1 from none)": api.Done, "exists (select * from none order_, (select * from none) x)": api.Done,
		// No column has an alias that one ahead has.
		"exists (select 1 from none, none)": api.Done, "exists (select 1 from none t, t, none t)": api.Done, "exists (select 1 from t, none t join u t on true)": api.TwoTables,
	} {
		queryIs(t, l, "select 1 from t where "+text, want)
	}
	columnsAre(t, l, "select * from none", "")
	queryIs(t, l, "select * from none order by 1", api.Syntax)
	queryIs(t, l, "select * from none order by 0", api.Syntax)
	partIs(t, l, "select * from none, t, none x", "from", "from (table none, table t 3, table none)")
}
