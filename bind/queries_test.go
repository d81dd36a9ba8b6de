package bind

import (
	"strings"
	"testing"

	"stile/api"
)

func TestExamples(t *testing.T) {
	l := schema(t)
	tree := queryIs(t, l, "select b from t where a = 1", api.Done)
	if got, want := show(tree), "query (select (items (item b (slot 1)), from (table t 3), where (= (slot 0, num 1)), group, having, totals, grouped), order)"; got != want {
		t.Errorf("P16.1: %s, not %s", got, want)
	}
	queryIs(t, l, "select a from t group by b", api.Grouping)
	partIs(t, l, "select 1 from t where exists (select 1 from u where u.a = t.a)", "where",
		"where (exists (select (items (item ? (num 1)), from (table u 2), where (= (slot 0, slot 1000)), group, having, totals, grouped)))")
}

func TestWholeTrees(t *testing.T) {
	l := schema(t)
	for text, want := range map[string]string{
		"select distinct t.*, x.a as k from t join u x on t.a = x.a order by k desc, 1, b asc":                          "query (select 1 (items (item a (slot 0), item b (slot 1), item c (slot 2), item k (slot 3)), from (inner 5 (table t 3, table u 2, = (slot 0, slot 3))), where, group, having, totals, grouped), order (key desc 3, key asc 0, key asc 1))",
		"select b, count(distinct a), max(a + 1), count(*) from t where c group by b, c having sum(a) > count(*) and c": "query (select (items (item b (slot 0), item ? (slot 2), item ? (slot 3), item ? (slot 4)), from (table t 3), where (slot 2), group (slot 1, slot 2), having (and (> (slot 5, slot 6), slot 1)), totals (count 1 (slot 0), max (+ (slot 0, num 1)), count*, sum (slot 0), count*), grouped 1), order)",
		"select a from t union all select d from u except select 1 from v intersect all select null from w":             "query (except (union 1 (select (items (item a (slot 0)), from (table t 3), where, group, having, totals, grouped), select (items (item d (slot 1)), from (table u 2), where, group, having, totals, grouped)), intersect 1 (select (items (item ? (num 1)), from (table v 4), where, group, having, totals, grouped), select (items (item ? (null)), from (table w 12), where, group, having, totals, grouped))), order)",
		"select k from (select b as k, a from t) x, (select d from u union select 1 from u) y where y.d = x.a":          "query (select (items (item k (slot 0)), from (derived 2 (select (items (item k (slot 1), item a (slot 0)), from (table t 3), where, group, having, totals, grouped)), derived 1 (union (select (items (item d (slot 1)), from (table u 2), where, group, having, totals, grouped), select (items (item ? (num 1)), from (table u 2), where, group, having, totals, grouped)))), where (= (slot 2, slot 1)), group, having, totals, grouped), order)",
	} {
		if got := show(queryIs(t, l, text, api.Done)); got != want {
			t.Errorf("P16.1: B1: %s: %s, not %s", text, got, want)
		}
	}
}

func TestOrder(t *testing.T) {
	l := schema(t)
	for text, want := range map[string]api.State{
		"select a, b from t order by 1": api.Done, "select a, b from t order by 2": api.Done, "select a, b from t order by 0": api.Syntax, "select a, b from t order by 3": api.Syntax, "select a, b from t order by 9223372036854775807": api.Syntax, "select a, b from t order by 4294967297": api.Syntax,
		"select a, b from t order by b": api.Done, "select a, b from t order by c": api.NoColumn, "select a, b from t order by t.b": api.NoColumn, "select a, b from t order by t.c": api.NoColumn, "select a, b from t order by x": api.NoColumn,
		"select a as k from t order by k": api.Done, "select a as k from t order by a": api.NoColumn, "select a + 1 from t order by a": api.NoColumn, "select a as k, b as k from t order by k": api.Done,
		"select * from t order by 3": api.Done, "select * from t order by 4": api.Syntax, "select * from t, u order by a": api.Done, "select * from t order by c": api.Done,
		"select a from t union select d from u order by a": api.Done, "select a from t union select d from u order by d": api.NoColumn, "select a from t union select d from u order by 2": api.Syntax,
		// Key by key, behind the body.
		"select a from t order by 1, 0, x": api.Syntax, "select a from t order by a, x, 0": api.NoColumn, "select a from t order by t.a, 0": api.NoColumn, "select a from t order by 2, t.a": api.Syntax,
		"select x from t order by 0": api.NoColumn, "select a from x order by 0": api.NoTable, "select a + b from t order by 0": api.Mismatch, "select a from t having true order by 0": api.Grouping, "select a from t union select b from t order by 0": api.Mismatch, "select a from t union select a, d from u order by x": api.Syntax,
	} {
		queryIs(t, l, text, want)
	}
	for text, want := range map[string]string{
		"select a, b from t": "order", "select a, b from t order by 2 desc, 1": "order (key desc 1, key asc 0)", "select a, b from t order by b, b desc, 2": "order (key asc 1, key desc 1, key asc 1)",
		"select a as k, b as k from t order by k desc": "order (key desc 0)", "select b as x, a as k, c as k from t order by k": "order (key asc 1)",
	} {
		if got := show(queryIs(t, l, text, api.Done).L[1]); got != want {
			t.Errorf("P16.1: B1: %s: %s, not %s", text, got, want)
		}
	}
}

func TestSets(t *testing.T) {
	l := schema(t)
	for _, op := range []string{"union", "union all", "except", "except all", "intersect", "intersect all"} {
		for sides, want := range map[[2]string]api.State{
			{"a from t", "a from u"}: api.Done, {"a from t", "b from t"}: api.Mismatch, {"a, b from t", "d, b from t, u"}: api.Done, {"a, b from t", "b, a from t"}: api.Mismatch,
			{"a from t", "a, d from u"}: api.Syntax, {"a, d from u", "a from t"}: api.Syntax, {"* from t", "* from v"}: api.Syntax, {"* from t", "e, f, g from v"}: api.Done,
			{"a from t", "null from u"}: api.Done, {"null from t", "b from t"}: api.Done, {"null from t", "null from t"}: api.Done, {"c from t", "null from t"}: api.Done, {"c from t", "g from v"}: api.Done, {"c from t", "1 from v"}: api.Mismatch,
			{"a, null, c from t", "null, b, true from t"}: api.Done, {"a, null, c from t", "null, b, 'x' from t"}: api.Mismatch,
			// Both bodies ahead of what is asked of both; how many ahead of what kinds.
			{"z from t", "a from x"}: api.NoColumn, {"a from x", "z from t"}: api.NoTable, {"a from t", "z from t"}: api.NoColumn, {"a, b from t", "z from t"}: api.NoColumn, {"b from t", "a + b from t"}: api.Mismatch,
			{"a from t", "b, a from t"}: api.Syntax, {"b, a from t", "a from t"}: api.Syntax,
		} {
			queryIs(t, l, "select "+sides[0]+" "+op+" select "+sides[1], want)
		}
		for sides, want := range map[[2]string]string{
			{"a as k, b from t", "d, f as z from u, v"}: "k n, b x", {"null from t", "b from t"}: "? x", {"c from t", "null from t"}: "c b", {"null as x from t", "null as y from t"}: "x ?", {"1, null, 'x', null from t", "null as q, a, null, c from t"}: "? n, ? n, ? x, ? b",
		} {
			columnsAre(t, l, "select "+sides[0]+" "+op+" select "+sides[1], want)
		}
	}
	// Of three the kinds together of two go on.
	queryIs(t, l, "select null from t union select null from t union select a from t", api.Done)
	queryIs(t, l, "select null from t union select b from t union select a from t", api.Mismatch)
	queryIs(t, l, "select null from t union select b from t union select null from t", api.Done)
	queryIs(t, l, "select a from t union (select null from t union select b from t)", api.Mismatch)
	columnsAre(t, l, "select null from t union all (select null as z from t intersect select c from t)", "? b")
	columnsAre(t, l, "(select a as x from t except select a as y from t) except select a as z from t", "x n")
	// What stands first is not changed by what it is put together with.
	queryIs(t, l, "select x.p from (select null as p from t) x where x.p = 1 and x.p = 'x'", api.Done)
	queryIs(t, l, "select x.p from (select null as p from t union select 1 from t) x where x.p = 'x'", api.Mismatch)
}

func TestFrom(t *testing.T) {
	l := schema(t)
	for text, want := range map[string]api.State{
		"t": api.Done, "t x": api.Done, "x": api.NoTable, "x t": api.NoTable, "t, x": api.NoTable, "x, t": api.NoTable, "t t, u u": api.Done,
		"t, t": api.TwoTables, "t, t x": api.Done, "t x, t": api.Done, "t x, t x": api.TwoTables, "t x, u x": api.TwoTables, "t u, u": api.TwoTables, "t u, u t": api.Done, "t, u, t": api.TwoTables, "t, u, v": api.Done,
		"t, (select 1 as k from u) t": api.TwoTables, "(select 1 as k from u) t, t": api.TwoTables, "(select 1 as k from u) x, (select 1 as k from u) x": api.TwoTables, "t, (select a from t) x": api.Done, "(select a from t) u, t": api.Done,
		"t cross join t": api.TwoTables, "t cross join u": api.Done, "t cross join u cross join t": api.TwoTables, "t, u cross join t": api.TwoTables, "u cross join t, t": api.TwoTables, "(t cross join u) cross join (v cross join w)": api.Done, "(t cross join u) cross join (v cross join t)": api.TwoTables,
		// From the left on.
		"t, t, x": api.TwoTables, "x, t, t": api.NoTable, "t, x, t": api.NoTable, "t cross join x, t": api.NoTable, "t, (select z from u) t": api.NoColumn, "t, (select z from u) t, x": api.NoColumn, "t, t, (select z from u) y": api.TwoTables, "(select z from t) x, y": api.NoColumn, "(select 1 from y) x, z": api.NoTable,
		"x join t on z = 1": api.NoTable, "t join x on z = 1": api.NoTable, "t join t on z = 1": api.TwoTables, "t join u on z = 1, x": api.NoColumn, "t join u on a = 1, x": api.Ambiguous, "t join u on d, x": api.Mismatch, "t join u on count(*) = 1, x": api.Grouping,
		"(t join u on z = 1) join x on y = 1": api.NoColumn, "(t join u on d) join t on y = 1": api.Mismatch, "(t join u on t.a = u.a) join v on z = 1": api.NoColumn,
	} {
		queryIs(t, l, "select 1 from "+text, want)
		queryIs(t, l, "select z from "+text+" where y = 1 group by p having q order by 0", fallen(want))
		queryIs(t, l, "select 1 from v where exists (select 1 from "+text+")", want)
	}
	for text, want := range map[string]string{
		"t": "from (table t 3)", "u x, v y": "from (table u 2, table v 4)", "u cross join v": "from (cross 6 (table u 2, table v 4))", "t, (u cross join v), w": "from (table t 3, cross 6 (table u 2, table v 4), table w 12)",
		"t left join u on true": "from (left 5 (table t 3, table u 2, bool 1))", "t right join u on null": "from (right 5 (table t 3, table u 2, null))", "t full join u on d = t.a": "from (full 5 (table t 3, table u 2, = (slot 4, slot 0)))",
		"t, u join v on d = e join w on w1 = u.a and w12 = h": "from (table t 3, inner 18 (inner 6 (table u 2, table v 4, = (slot 1, slot 2)), table w 12, and (= (slot 6, slot 0), = (slot 17, slot 5))))",
		"t, u join (v left join w on e = w1) on d = w2":       "from (table t 3, inner 18 (table u 2, left 16 (table v 4, table w 12, = (slot 0, slot 4)), = (slot 1, slot 7)))",
	} {
		partIs(t, l, "select 1 from "+text, "from", want)
	}
}

// fallen is the state that is told ahead of what stands behind FROM.
func fallen(of api.State) api.State {
	if of == api.Done {
		return api.NoColumn
	}
	return of
}

func TestFromWidth(t *testing.T) {
	l := schema(t)
	// derived is one of n columns.
	derived := func(n int, alias string) string {
		stars := n / 12
		items := "1 as k"
		for range n - 12*stars - 1 {
			items += ", 1"
		}
		if n == 12*stars {
			items, stars = "w.*", stars-1
		}
		return "(select " + items + strings.Repeat(", *", stars) + " from w) " + alias
	}
	for text, want := range map[string]api.State{
		derived(499, "x"): api.Done, derived(500, "x"): api.Done, derived(501, "x"): api.TooLarge, derived(600, "x"): api.TooLarge,
		derived(498, "x") + ", u": api.Done, derived(499, "x") + ", u": api.TooLarge, "u, " + derived(498, "x"): api.Done, "u, " + derived(499, "x"): api.TooLarge, "u, " + derived(501, "x"): api.TooLarge,
		derived(498, "x") + " cross join u": api.Done, derived(499, "x") + " cross join u": api.TooLarge, "t, v cross join " + derived(493, "x"): api.Done, "t, v cross join " + derived(494, "x"): api.TooLarge,
		"t, (select 1 from v, " + derived(496, "x") + ") y": api.Done, "t, (select 1 from v, " + derived(497, "x") + ") y": api.TooLarge,
		// One alias twice ahead of too many columns; what stands ahead ahead of both.
		"u, " + derived(501, "u"): api.TwoTables, "u, " + derived(499, "u"): api.TwoTables, derived(501, "x") + ", x": api.TooLarge, "x, " + derived(501, "x"): api.NoTable, derived(499, "x") + " cross join x": api.NoTable, derived(499, "x") + " join u on z = 1": api.TooLarge, derived(499, "x") + " cross join u y, u y": api.TooLarge,
	} {
		queryIs(t, l, "select 1 from "+text, want)
	}
	// How many columns a query tells has no bound, but where it is derived.
	tree, columns, state := Query(l, read(t, "select *, *, * from "+derived(500, "x")))
	if state != api.Done || len(columns) != 1500 || len(tree.L[0].L[0].L) != 1500 || tree.L[0].L[1].L[0].N != 500 {
		t.Errorf("P16.1: B1: %d columns: %s", len(columns), state)
	}
	queryIs(t, l, "select 1 from t where 1 in (select * from "+derived(500, "x")+")", api.Syntax)
	queryIs(t, l, "select x.k from "+derived(500, "x")+" where exists (select 1 from "+derived(500, "y")+" where y.k = x.k)", api.Done)
}

func TestDerivedScopes(t *testing.T) {
	l := schema(t)
	for text, want := range map[string]api.State{
		// A derived one sees what is around the select, and not what stands beside it.
		"select 1 from t, (select 1 from u where d = b) x": api.NoColumn, "select 1 from t, (select t.b from u) x": api.NoColumn, "select 1 from t, (select b from u) x": api.NoColumn, "select 1 from t cross join (select t.a from u) x": api.NoColumn, "select 1 from t join (select c from u) x on true": api.NoColumn,
		"select 1 from t where exists (select 1 from v, (select t.b from u) x)": api.Done, "select 1 from t where exists (select 1 from v, (select b from u) x where x.b = f)": api.Done, "select 1 from t where exists (select 1 from v, (select f from u) x)": api.NoColumn, "select 1 from t where exists (select 1 from v cross join (select h from u) x)": api.NoColumn,
		"select x.k from (select a as k from t) x": api.Done, "select x.a from (select a as k from t) x": api.NoColumn, "select t.a from (select a from t) x": api.NoColumn, "select a, x.a from (select a from t) x": api.Done, "select k from (select a as k, b as k from t) x": api.Ambiguous, "select x.k from (select a as k, b as k from t) x": api.Done, "select * from (select a as k, b as k from t) x": api.Done,
		"select p from (select a + 1 from t) x": api.NoColumn, "select * from (select a + 1, count(*) from t group by a) x": api.Done,
	} {
		queryIs(t, l, text, want)
	}
	partIs(t, l, "select 1 from t where exists (select 1 from v, (select t.b from u) x)", "where",
		"where (exists (select (items (item ? (num 1)), from (table v 4, derived 1 (select (items (item b (slot 1001)), from (table u 2), where, group, having, totals, grouped))), where, group, having, totals, grouped)))")
	partIs(t, l, "select x.k from (select a as k, b as k from t) x", "items", "items (item k (slot 0))")
	columnsAre(t, l, "select x.k, x.* from (select a as k, b as k, null, c from t) x", "k n, k n, k x, ? ?, c b")
}

func TestJoinConditions(t *testing.T) {
	l := schema(t)
	for _, join := range []string{"join", "inner join", "left join", "left outer join", "right join", "full join"} {
		for condition, want := range map[string]api.State{
			"t.a = u.a": api.Done, "d = t.a": api.Done, "a = d": api.Ambiguous, "c": api.Done, "null": api.Done, "true": api.Done, "d": api.Mismatch, "b": api.Mismatch, "1": api.Mismatch, "z = 1": api.NoColumn, "x.a = 1": api.NoColumn, "e = 1": api.NoColumn, "v.e = 1": api.NoColumn, "w1 = 1": api.NoColumn, "w.w1 = 1": api.NoColumn, "d = b": api.Mismatch,
			"count(*) = 1": api.Grouping, "sum(d) > 1 and z = 1": api.Grouping, "z = 1 and sum(d) > 1": api.NoColumn, "max(z) = 1": api.NoColumn, "count(*)": api.Grouping, "exists (select count(*) from t)": api.Done, "d = (select max(e) from v)": api.Done, "d in (select e from v where h = t.a)": api.Done, "d in (select e from v where h = w.w1)": api.NoColumn,
		} {
			queryIs(t, l, "select 1 from v, t "+join+" u on "+condition, want)
			queryIs(t, l, "select 1 from t "+join+" u on "+condition+", w", want)
		}
		// It sees the scopes around the select, behind both tables' own.
		queryIs(t, l, "select 1 from v where exists (select 1 from w, t "+join+" u on d = e and f = b and v.g)", api.Done)
		queryIs(t, l, "select 1 from v where exists (select 1 from w, t "+join+" u on w1 = e)", api.NoColumn)
		partIs(t, l, "select 1 from v where exists (select 1 from w, t "+join+" u on d = h and v.g)", "where",
			"where (exists (select (items (item ? (num 1)), from (table w 12, "+joined(join)+" 5 (table t 3, table u 2, and (= (slot 4, slot 1003), slot 1002))), where, group, having, totals, grouped)))")
	}
	queryIs(t, l, "select 1 from t where exists (select 1 from u join v on u.a = e and t.c)", api.Done)
	queryIs(t, l, "select 1 from t join u on t.a in (select e from v join w on e = d and w1 = t.a)", api.Done)
}

func joined(words string) string {
	kind, _, _ := strings.Cut(words, " ")
	if kind == "join" {
		return "inner"
	}
	return kind
}

func TestWhere(t *testing.T) {
	l := schema(t)
	for text, want := range map[string]api.State{
		"c": api.Done, "null": api.Done, "true": api.Done, "a = 1": api.Done, "a": api.Mismatch, "b": api.Mismatch, "1": api.Mismatch, "'x'": api.Mismatch, "null + 1": api.Mismatch, "null || 'x'": api.Mismatch, "coalesce(null, c)": api.Done, "(select null from u)": api.Done, "(select d from u)": api.Mismatch, "coalesce(null)": api.Done, "cast(null as int)": api.Mismatch, "cast(b as boolean)": api.Done,
		"count(*) > 1": api.Grouping, "count(*)": api.Grouping, "sum(a) > 1": api.Grouping, "c and max(c)": api.Grouping, "exists (select count(*) from u)": api.Done, "a in (select max(d) from u)": api.Done, "a = (select count(*) from u having sum(d) > 1)": api.Done, "a = any (select min(d) from u)": api.Done, "max(a) in (select d from u)": api.Grouping, "a in (1, count(*))": api.Grouping, "case when c then 1 else count(*) end = 1": api.Grouping, "cast(count(*) as int) = 1": api.Grouping,
		// As the total is met: behind what is wrong in its part, ahead of all that comes behind it.
		"sum(z) > 1": api.NoColumn, "sum(b) > 1": api.Grouping, "sum(a + b) > 1": api.Mismatch, "sum(max(z)) > 1": api.NoColumn, "z = 1 and count(*) = 1": api.NoColumn, "count(*) = 1 and z = 1": api.Grouping, "count(*) + z": api.Grouping, "z + count(*)": api.NoColumn, "b + count(*)": api.Grouping, "a + b = count(*)": api.Mismatch, "count(*) = b": api.Grouping, "count(*) || z": api.Grouping, "(select d, a from u) = count(*)": api.Syntax, "count(*) = (select d, a from u)": api.Grouping, "max(t.z) in (select y from x)": api.NoColumn,
	} {
		queryIs(t, l, "select 1 from t where "+text, want)
		queryIs(t, l, "select z from t where "+text, fallen(want))
		queryIs(t, l, "select 1 from t group by z having "+text, api.NoColumn)
	}
	partIs(t, l, "select 1 from t where c", "where", "where (slot 2)")
	partIs(t, l, "select 1 from t", "where", "where")
}

func TestGroupBy(t *testing.T) {
	l := schema(t)
	for text, want := range map[string]api.State{
		"select 1 from t group by a": api.Done, "select 1 from t group by t.a": api.Done, "select 1 from t group by z": api.NoColumn, "select 1 from t group by u.a": api.NoColumn, "select 1 from t group by t.z": api.NoColumn, "select 1 from t x group by t.a": api.NoColumn, "select 1 from t x group by x.a": api.Done,
		"select 1 from t, u group by a": api.Ambiguous, "select 1 from t, u group by t.a": api.Done, "select 1 from t, u group by d, u.a": api.Done, "select 1 from (select 1 as k, 2 as k from t) x group by k": api.Ambiguous, "select 1 from (select 1 as k, 2 as k from t) x group by x.k": api.Done,
		// In its own scope alone.
		"select 1 from t where exists (select 1 from u group by b)": api.NoColumn, "select 1 from t where exists (select 1 from u group by t.a)": api.NoColumn, "select 1 from t where exists (select 1 from u group by a)": api.Done, "select a as k from t group by k": api.NoColumn,
		// Column by column, behind WHERE and ahead of the items.
		"select 1 from t, u group by z, a": api.NoColumn, "select 1 from t, u group by a, z": api.Ambiguous, "select 1 from t where a group by z": api.Mismatch, "select 1 from t where count(*) = 1 group by z": api.Grouping, "select * from t group by z": api.NoColumn, "select x from t, u group by a": api.Ambiguous, "select 1 from t group by z having count(*)": api.NoColumn,
	} {
		queryIs(t, l, text, want)
	}
	partIs(t, l, "select 1 from t group by c, a, c", "group", "group (slot 2, slot 0, slot 2)")
	partIs(t, l, "select 1 from t, u group by u.a, d, b", "group", "group (slot 3, slot 4, slot 1)")
	partIs(t, l, "select 1 from t where exists (select 1 from u group by a)", "group", "group")
	partIs(t, l, "select 1 from (select 1 as k, 2 as k from t) x group by x.k", "group", "group (slot 0)")
}

func TestItems(t *testing.T) {
	l := schema(t)
	for text, want := range map[string]api.State{
		"select * from t": api.Done, "select t.* from t": api.Done, "select x.* from t": api.NoTable, "select t.* from t x": api.NoTable, "select x.*, t.a from t x": api.NoColumn, "select u.*, t.* from t, u": api.Done, "select *, * from t": api.Done, "select 1 from t where exists (select t.* from u)": api.NoTable, "select b.* from t": api.NoTable, "select a.* from t a": api.Done,
		"select * from t group by a": api.Grouping, "select x.* from t group by a": api.Grouping, "select t.* from t having true": api.Grouping, "select *, count(*) from t": api.Grouping, "select count(*), * from t": api.Grouping, "select * from (select count(*) from t) x": api.Done, "select *, (select count(*) from u) from t": api.Done, "select (select count(*) from u), a from t": api.Done, "select exists (select sum(a) from u), a from t": api.Done, "select a in (select max(d) from u), a from t": api.Done, "select a = all (select max(d) from u), a from t": api.Done, "select max(a) in (select d from u), a from t": api.Grouping,
		// Item by item.
		"select z, x.* from t": api.NoColumn, "select x.*, z from t": api.NoTable, "select a + b, z from t": api.Mismatch, "select z, a + b from t": api.NoColumn, "select *, a from t group by a": api.Grouping, "select z, * from t group by a": api.NoColumn, "select b, z from t group by a": api.Grouping, "select z, b from t group by a": api.NoColumn, "select x.*, count(z) from t": api.Grouping, "select count(z), x.* from t": api.NoColumn, "select sum(b), z from t": api.Mismatch, "select count(*) + b, z from t": api.Grouping, "select count(*) + z, b from t": api.NoColumn,
		"select z from t having count(*)": api.NoColumn, "select a from t having z": api.Grouping, "select 1 from t having z": api.NoColumn,
	} {
		queryIs(t, l, text, want)
	}
	for text, want := range map[string]string{
		"select a, t.b, (c) from t": "a n, b x, c b", "select a as x, b y, c as z from t": "x n, y x, z b", "select 1, 'x', true, null, -a, a + 1, not c from t": "? n, ? x, ? b, ? ?, ? n, ? n, ? b", "select * from t, u": "a n, b x, c b, a n, d n", "select u.*, 1 as k, t.* from t, u": "a n, d n, k n, a n, b x, c b",
		"select a, count(*), max(b), min(c), sum(a) as s from t group by a": "a n, ? n, ? x, ? b, s n", "select (select a from u), (select b from t) as z, exists (select * from t) from v": "? n, z x, ? b", "select max(null), min(null), sum(null), count(null) from t": "? ?, ? ?, ? n, ? n", "select t.a from t group by t.a": "a n", "select coalesce(a) , cast(a as char) , case when c then b end from t": "? n, ? x, ? x",
		"select * from v": "e n, f x, g b, h n", "select null as n from t": "n ?",
	} {
		columnsAre(t, l, text, want)
	}
	partIs(t, l, "select u.*, *, t.a x from t, u", "items", "items (item a (slot 3), item d (slot 4), item a (slot 0), item b (slot 1), item c (slot 2), item a (slot 3), item d (slot 4), item x (slot 0))")
	partIs(t, l, "select 1, 'x', true, false, null from t", "items", "items (item ? (num 1), item ? (text x), item ? (bool 1), item ? (bool), item ? (null))")
}

func TestHaving(t *testing.T) {
	l := schema(t)
	for text, want := range map[string]api.State{
		"select 1 from t having true": api.Done, "select 1 from t having null": api.Done, "select 1 from t having count(*) > 1": api.Done, "select 1 from t having 1": api.Mismatch, "select 1 from t having count(*)": api.Mismatch, "select 1 from t having max(b)": api.Mismatch, "select 1 from t having max(c)": api.Done, "select 1 from t having max(null)": api.Done,
		"select 1 from t having a = 1": api.Grouping, "select a from t having true": api.Grouping, "select a from t group by a having a = 1": api.Done, "select a from t group by a having c": api.Grouping, "select a from t group by a having max(c)": api.Done, "select a from t group by a having z": api.NoColumn, "select a as k from t group by a having k = 1": api.NoColumn,
		"select 1 from t having sum(z) = 1 and a": api.NoColumn, "select 1 from t having sum(a) = b": api.Grouping, "select 1 from t having sum(b) = b": api.Mismatch, "select 1 from t having sum(max(a)) > 1": api.Grouping, "select a from t group by a having count(*) > 1 order by 2": api.Syntax,
		"select 1 from t group by c having exists (select 1 from u where d = max(t.a))": api.Grouping, "select 1 from t group by c having c in (select max(g) from v)": api.Done,
	} {
		queryIs(t, l, text, want)
	}
	partIs(t, l, "select 1 from t having max(a) > 1", "having", "having (> (slot 0, num 1))")
	partIs(t, l, "select 1 from t having true", "grouped", "grouped 1")
	partIs(t, l, "select 1 from t group by a", "grouped", "grouped 1")
	partIs(t, l, "select count(*) from t", "grouped", "grouped 1")
	partIs(t, l, "select 1 from t where exists (select max(a) from u)", "grouped", "grouped")
	partIs(t, l, "select (select max(a) from u) from t", "grouped", "grouped")
}

func TestGroupScope(t *testing.T) {
	l := schema(t)
	for text, want := range map[string]string{
		"select max(a), b, count(*) from t group by b, c":                             "items (item ? (slot 2), item b (slot 0), item ? (slot 3))",
		"select c, b, t.b from t group by b, c":                                       "items (item c (slot 1), item b (slot 0), item b (slot 0))",
		"select count(*), count(*), 1 + count(*) from t":                              "items (item ? (slot 0), item ? (slot 1), item ? (+ (num 1, slot 2)))",
		"select sum(a) + sum(a) * max(a), -min(a) from t group by a":                  "items (item ? (+ (slot 1, * (slot 2, slot 3))), item ? (neg (slot 4)))",
		"select case max(a) when 1 then count(*) when 2 then 3 end from t":            "items (item ? (case (when (= (slot 0, num 1), slot 1), when (= (slot 2, num 2), num 3), null)))",
		"select case a + 1 when 1 then 2 when 2 then 3 end from t group by b, a":      "items (item ? (case (when (= (+ (slot 1, num 1), num 1), num 2), when (= (+ (slot 1, num 1), num 2), num 3), null)))",
		"select t.a from t, u group by t.b, t.a":                                      "items (item a (slot 1))",
		"select a from t, u group by u.a":                                             "items (item a (slot 0))",
		"select (select max(d) from u where u.a = b.a) from t b group by c, a":        "items (item ? (scalar (select (items (item ? (slot 0)), from (table u 2), where (= (slot 0, slot 1001)), group, having, totals (max (slot 1)), grouped 1))))",
		"select max((select d from u where u.a = t.a)) from t group by b":             "items (item ? (slot 1))",
		"select b, (select max(d + e) from u) from t, v group by h, e, b":             "items (item b (slot 2), item ? (scalar (select (items (item ? (slot 0)), from (table u 2), where, group, having, totals (max (+ (slot 1, slot 1001))), grouped 1))))",
		"select (select count(*) from u group by d having d = t.a) from t group by a": "items (item ? (scalar (select (items (item ? (slot 1)), from (table u 2), where, group (slot 1), having (= (slot 0, slot 1000)), totals (count*), grouped 1))))",
	} {
		partIs(t, l, text, "items", want)
	}
	for text, want := range map[string]string{
		"select max(a), b, count(*) from t group by b, c":                      "totals (max (slot 0), count*)",
		"select count(distinct b), sum(all a), min(distinct c) from t":         "totals (count 1 (slot 1), sum (slot 0), min 1 (slot 2))",
		"select sum(a) + sum(a) from t having sum(a) > max(a)":                 "totals (sum (slot 0), sum (slot 0), sum (slot 0), max (slot 0))",
		"select case max(a) when 1 then count(*) when 2 then 3 end from t":     "totals (max (slot 0), count*, max (slot 0))",
		"select max((select d from u where u.a = t.a)) from t group by b":      "totals (max (scalar (select (items (item d (slot 1)), from (table u 2), where (= (slot 0, slot 1000)), group, having, totals, grouped))))",
		"select max((select max(d) from u where u.a = t.a)) from t group by b": "totals (max (scalar (select (items (item ? (slot 0)), from (table u 2), where (= (slot 0, slot 1000)), group, having, totals (max (slot 1)), grouped 1))))",
		"select 1 from t group by a":                                           "totals",
		"select 1 from t":                                                      "totals",
		"select sum(case a + 1 when 1 then 2 when 2 then 3 end) from t":        "totals (sum (case (when (= (+ (slot 0, num 1), num 1), num 2), when (= (+ (slot 0, num 1), num 2), num 3), null)))",
	} {
		partIs(t, l, text, "totals", want)
	}
	for text, want := range map[string]api.State{
		"select a from t group by b": api.Grouping, "select t.a from t group by b": api.Grouping, "select t.a from t group by t.b": api.Grouping, "select t.z from t group by t.b": api.NoColumn, "select z from t group by b": api.NoColumn, "select u.z from t group by b": api.NoColumn, "select 1 + a from t group by b": api.Grouping, "select b from t group by b": api.Done,
		"select a, count(*) from t": api.Grouping, "select count(*), a from t": api.Grouping, "select count(a), max(b) from t group by c": api.Done, "select count(*) + a from t": api.Grouping, "select sum(a) + max(d) from t, u": api.Ambiguous, "select sum(t.a) + max(d) from t, u": api.Done,
		// A name that two columns of the rows have is one of the group's, if the group has one of them.
		"select a from t, u group by t.a": api.Done, "select a from t, u group by t.a, u.a": api.Ambiguous, "select a from t, u group by d": api.Grouping, "select u.a from t, u group by t.a": api.Grouping, "select t.a, u.a from t, u group by t.a, u.a": api.Done, "select a from t group by a, a": api.Ambiguous, "select t.a from t group by a, a": api.Done,
		// A total within a total, but not in a query within.
		"select sum(max(a)) from t": api.Grouping, "select sum(1 + count(*)) from t": api.Grouping, "select sum(max(z)) from t": api.NoColumn, "select sum(z + max(a)) from t": api.NoColumn, "select sum(max(a) + z) from t": api.Grouping, "select sum((select max(d) from u)) from t": api.Done, "select sum((select max(max(d)) from u)) from t": api.Grouping, "select max(exists (select count(*) from u)) from t": api.Done,
		// Queries within see the group's columns, and those of the rows alone are Grouping to them.
		"select (select d from u where u.a = t.a) from t group by b": api.Grouping, "select (select d from u where u.a = t.a) from t group by a": api.Done, "select (select b from u) from t group by a": api.Grouping, "select (select b from u) from t group by b": api.Done, "select (select z from u) from t group by b": api.NoColumn, "select (select a from u) from t group by b": api.Done, "select (select t.z from u) from t group by b": api.NoColumn, "select (select max(b) from u) from t group by a": api.Grouping, "select max((select b from u)) from t group by a": api.Done, "select max((select z from u)) from t group by a": api.NoColumn,
		"select 1 from v where exists (select a from t group by b having e = 1)": api.Grouping, "select 1 from v where exists (select b from t group by b having e = 1)": api.Done, "select 1 from v where exists (select e from t group by b)": api.Done, "select 1 from v group by f having exists (select b from t group by b having e = 1)": api.Grouping, "select 1 from v group by f having exists (select b from t group by b having f = b)": api.Done, "select 1 from v group by f having exists (select max(e) from t)": api.Grouping, "select 1 from v group by e having exists (select max(e + a) from t)": api.Done,
		// The nearer of two scopes that have a name is the one that is grouped.
		"select 1 from t where exists (select a from u group by d)": api.Grouping, "select 1 from t where exists (select t.a from u group by d)": api.Done, "select 1 from u where exists (select u.a from t u group by b)": api.Grouping, "select 1 from u where exists (select u.d from t u group by b)": api.NoColumn,
		// The group's scope has no columns of an alias of which none is grouped by.
		"select 1 from u where exists (select u.d from t u having true)": api.Done, "select 1 from u where exists (select u.d from t u)": api.NoColumn,
	} {
		queryIs(t, l, text, want)
	}
}
