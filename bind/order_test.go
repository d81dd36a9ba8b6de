package bind

import (
	"strconv"
	"strings"
	"testing"

	"stile/api"
)

// faulty are expressions that are wrong in themselves, wherever they stand in a select from t and u, by the state that each is told by.
func faulty() map[api.State]string {
	return map[api.State]string{
		api.NoColumn:  "zz",
		api.Ambiguous: "(select 1 from t, u where a = 1)",
		api.Mismatch:  "(1 + 'x')",
		api.Grouping:  "(select b from t group by c)",
		api.NoTable:   "(select 1 from zz)",
		api.TwoTables: "(select 1 from t, t)",
		api.Syntax:    "(select 1, 2 from t)",
		api.TooLarge:  "(select 1 from (select " + strings.Repeat("*, ", 41) + "* from w) y)",
	}
}

// In each of an expression's parts a fault, and in each one behind it another: the first is told.
func TestFirstOfTwoParts(t *testing.T) {
	l := schema(t)
	x := table(t, l, "t")
	faults := faulty()
	for _, form := range []string{
		"$1 + $2", "$1 - $2", "$1 * $2", "$1 / $2", "$1 || $2", "$1 = $2", "$1 <> $2", "$1 < $2", "$1 <= $2", "$1 > $2", "$1 >= $2", "$1 and $2", "$1 or $2", "$1 like $2", "nullif($1, $2)", "$1 between $2 and $3", "$1 in (null, $2, $3)", "coalesce($1, $2, $3)",
		"case when $1 then $2 when $3 then $4 else $5 end", "case $1 when $2 then $3 when $4 then $5 else $6 end", "$1 in (select $2 from u)", "$1 = any (select $2 from u)", "$1 < all (select $2 from u)", "not (null = $1 and $2 = null)", "(null = $1 and $2 = null) is true", "cast($1 + $2 as int)", "-(1 * $1 + $2)", "$1 + $2 * $3", "(1 + $1 + $2) * $3", "exists (select $1 from u where u.a = $2)",
	} {
		count := strings.Count(form, "$")
		for first, text := range faults {
			for i := 1; i <= count; i++ {
				one := strings.ReplaceAll(form, "$"+strconv.Itoa(i), text)
				if strings.HasPrefix(form, "exists") && i == 1 {
					continue
				}
				exprIs(t, l, x, filled(one), first, api.Null)
				for second, other := range faults {
					for j := i + 1; j <= count && second != first; j++ {
						exprIs(t, l, x, filled(strings.ReplaceAll(one, "$"+strconv.Itoa(j), other)), first, api.Null)
					}
				}
			}
		}
	}
	// WHERE stands ahead of the items, though they are written ahead of it.
	exprIs(t, l, x, "exists (select zz from u where 1 + 'x' = 1)", api.Mismatch, api.Null)
	exprIs(t, l, x, "exists (select zz from u where d = 1)", api.NoColumn, api.Null)
}

// filled has nothing in the places that are left.
func filled(text string) string {
	for i := range 6 {
		text = strings.ReplaceAll(text, "$"+strconv.Itoa(i+1), "null")
	}
	return text
}

// clause is a part of a query as it is written, when nothing is wrong in it, and with one fault each.
type clauseOf struct {
	right  string
	faults map[string]api.State
}

// clauses stand in the order in which they are bound.
func clauses() []clauseOf {
	all := faulty()
	from := map[string]api.State{"t, zz": api.NoTable, "t, u, t": api.TwoTables, "t join u on zz": api.NoColumn, "t join u on a = 1": api.Ambiguous, "t join u on d": api.Mismatch, "t join u on count(*) = 1": api.Grouping, "t, (select 1 from u union select 1, 2 from u) y, u": api.Syntax, "t, u, (select " + strings.Repeat("*, ", 41) + "* from w) y": api.TooLarge, "t, u join v on 'x' = 1": api.Mismatch}
	where := map[string]api.State{"d": api.Mismatch, "a = 1": api.Ambiguous, "count(*) = 1": api.Grouping, "d in (1, count(t.zz))": api.NoColumn, "null + 1": api.Mismatch}
	group := map[string]api.State{"t.b, zz": api.NoColumn, "a, zz": api.Ambiguous, "x.b, a": api.NoColumn}
	items := map[string]api.State{"*": api.Grouping, "zz.*": api.Grouping, "t.a": api.Grouping, "b, d": api.Grouping, "sum(max(d))": api.Grouping, "sum(b)": api.Mismatch, "b, max(a)": api.Ambiguous}
	having := map[string]api.State{"d = 1": api.Grouping, "b": api.Mismatch, "count(*)": api.Mismatch, "sum(t.a) = b": api.Mismatch, "max(a) = 1": api.Ambiguous}
	for state, text := range all {
		where[text+" = 1"], items["b, "+text], having[text+" = 1"] = state, state, state
	}
	return []clauseOf{
		{"t, u", from}, {"c", where}, {"t.b", group}, {"b, count(*)", items}, {"count(*) > 1", having},
		{"1", map[string]api.State{"0": api.Syntax, "zz": api.NoColumn, "t.b": api.NoColumn, "1, 9, zz": api.Syntax, "b, zz, 0": api.NoColumn}},
	}
}

func written(all [6]string) string {
	return "select " + all[3] + " from " + all[0] + " where " + all[1] + " group by " + all[2] + " having " + all[4] + " order by " + all[5]
}

// In each clause a fault, and in each one that is bound behind it another: the first is told.
func TestFirstOfTwoClauses(t *testing.T) {
	l := schema(t)
	parts := clauses()
	var right [6]string
	for i, c := range parts {
		right[i] = c.right
	}
	queryIs(t, l, written(right), api.Done)
	for i, c := range parts {
		for text, state := range c.faults {
			one := right
			one[i] = text
			queryIs(t, l, written(one), state)
			for j := i + 1; j < len(parts); j++ {
				for other := range parts[j].faults {
					two := one
					two[j] = other
					queryIs(t, l, written(two), state)
				}
			}
		}
	}
}

// Of two bodies the first one's fault is told, and either one's ahead of what is asked of both, or of what is around them.
func TestFirstOfTwoBodies(t *testing.T) {
	l := schema(t)
	bodies := map[string]api.State{}
	for state, text := range faulty() {
		bodies["select 1 from t, u where "+text+" = 1"] = state
		bodies["select "+text+" from t"] = state
	}
	bodies["select count(max(1)) from t"] = api.Grouping
	for text, state := range bodies {
		for _, form := range []string{
			"# union select 1, 2 from t", "select 1, 2 from t except #", "select 'x' from t intersect all #", "select 1 from (#) x where zz = 1", "select 1 from t, (#) t", "select 1 from (#) x join t on zz = 1", "select 1 from t join (#) x on t.zz = 1", "select 1 from (#) x, zz",
			"select 1 from t where (#) || 1 = zz", "select 1 from t where 'x' in (#) and zz = 1", "select 1 from t where exists (#) and zz = 1", "select (#), zz from t", "select 1 from t where 'x' = any (#)", "select 1 from t group by b having (#) = a", "select max((#)), zz from t", "select 1 from t where max((#)) = 1", "# order by 9",
		} {
			queryIs(t, l, strings.ReplaceAll(form, "#", text), state)
		}
		for other := range bodies {
			for _, op := range []string{" union ", " except all ", " intersect "} {
				queryIs(t, l, text+op+other, state)
			}
		}
	}
}
