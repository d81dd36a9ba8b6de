package parse

import (
	"strings"
	"testing"
)

// places are where an expression may stand, and the tree around it; both have E where it stands.
var places = []read{
	{"select 1 from t where E", "query(select(items(item(num#1)) from(table:t(as:t)) where(E) group having) order)"},
	{"select 1 from t having E order by 1", "query(select(items(item(num#1)) from(table:t(as:t)) where group having(E)) order(key:asc(num#1)))"},
	{"select E from t", "query(select(items(item(E)) from(table:t(as:t)) where group having) order)"},
	{"select a, E as x, b from t", "query(select(items(item(col:a) item:x(E) item(col:b)) from(table:t(as:t)) where group having) order)"},
	{"select 1 from t join u on E left join v on E", "query(select(items(item(num#1)) from(left(inner(table:t(as:t) table:u(as:u) E) table:v(as:v) E)) where group having) order)"},
	{"delete from t where E", "delete:t(where(E))"},
	{"update t set a = E, b = E where E", "update:t(set:a(E) set:b(E) where(E))"},
	{"insert into t values (E, E), (E)", "insert:t(columns values(row(E E) row(E)))"},
	{"create table t (a int check (E) unique, check (E))", "create table:t(column:a(type:integer check(E) unique) check(E))"},
	{"delete from t where case E when E then E else E end", "delete:t(where(case(when(=(E E) E) E)))"},
	{"delete from t where case when E then E when E then E end", "delete:t(where(case(when(E E) when(E E) null)))"},
	{"delete from t where coalesce(E, E) = nullif(E, E)", "delete:t(where(=(coalesce(E E) nullif(E E))))"},
	{"delete from t where cast(E as int) = sum(E) + max(distinct E)", "delete:t(where(=(cast(type:integer E) +(sum(E) max#1(E)))))"},
	{"delete from t where a in (1, E)", "delete:t(where(in(col:a num#1 E)))"},
}

func holdsEverywhere(t *testing.T, text, tree string) {
	t.Helper()
	for _, place := range places {
		reads(t, strings.ReplaceAll(place.text, "E", text), strings.ReplaceAll(place.tree, "E", tree))
	}
	reads(t, "select "+text+" x from t", "query(select(items(item:x("+tree+")) from(table:t(as:t)) where group having) order)")
	if !startsWithBody(text) {
		reads(t, "delete from t where ("+text+")", "delete:t(where("+tree+"))")
		reads(t, "delete from t where ((("+text+"))) or a", "delete:t(where(or("+tree+" col:a)))")
		reads(t, "delete from t where a in ("+text+")", "delete:t(where(in(col:a "+tree+")))")
	}
}

// startsWithBody tells whether a "(" ahead of the text would be a body's.
func startsWithBody(text string) bool {
	return strings.HasPrefix(strings.TrimLeft(text, "( "), "select")
}

func holdsNowhere(t *testing.T, texts ...string) {
	t.Helper()
	for _, text := range texts {
		for _, place := range places {
			isSyntax(t, strings.ReplaceAll(place.text, "E", text))
		}
		isSyntax(t, "delete from t where ("+text+")")
	}
}

func TestOperands(t *testing.T) {
	for text, tree := range map[string]string{
		"1": "num#1", "0": "num", "007": "num#7", "9223372036854775807": "num#9223372036854775807",
		"'a'": "text:a", "''": "text", "'A b'": `text:"A b"`, "'it''s'": `text:"it's"`, "'1'": "text:1",
		"true": "bool#1", "false": "bool", "null": "null",
		"a": "col:a", "t.a": "col:a(of:t)", "a.a": "col:a(of:a)", "t . a": "col:a(of:t)", "_": "col:_", "selected": "col:selected",
		"(a)": "col:a", "((a))": "col:a", "(((1)))": "num#1", "('a')": "text:a", "(t.a)": "col:a(of:t)", "(null)": "null",
		"(select 1 from t)": "scalar(" + one + ")", "((select 1 from t))": "scalar(" + one + ")", "(((select 1 from t)))": "scalar(" + one + ")",
		"(select 1 from t union select 1 from t)": "scalar(union(" + one + " " + one + "))", "((select 1 from t) union (select 1 from t))": "scalar(union(" + one + " " + one + "))", "((select 1 from t) intersect all select 1 from t)": "scalar(intersect#1(" + one + " " + one + "))",
		"exists (select 1 from t)": "exists(" + one + ")", "exists ((select 1 from t))": "exists(" + one + ")", "exists (((select 1 from t)) except (select 1 from t))": "exists(except(" + one + " " + one + "))",
		"cast(a as int)": "cast(type:integer col:a)", "cast(a or b as char(3))": "cast(type:char#3 or(col:a col:b))", "cast((select 1 from t) as bigint)": "cast(type:bigint scalar(" + one + "))", "cast(cast(null as boolean) as varchar(9))": "cast(type:varchar#9 cast(type:boolean null))",
		"coalesce(a)": "coalesce(col:a)", "coalesce(a, 1)": "coalesce(col:a num#1)", "coalesce(a, b or c, null, 'x')": "coalesce(col:a or(col:b col:c) null text:x)", "coalesce((select 1 from t), 2)": "coalesce(scalar(" + one + ") num#2)", "coalesce((a))": "coalesce(col:a)",
		"nullif(a, 1)": "nullif(col:a num#1)", "nullif(a = b, not c)": "nullif(=(col:a col:b) not(col:c))", "nullif((select 1 from t), (2))": "nullif(scalar(" + one + ") num#2)",
		"count(*)": "count*", "count ( * )": "count*", "count(a)": "count(col:a)", "count(all a)": "count(col:a)", "count(distinct a)": "count#1(col:a)",
		"sum(a)": "sum(col:a)", "sum(all a)": "sum(col:a)", "sum(distinct a)": "sum#1(col:a)", "min(a)": "min(col:a)", "min(all a)": "min(col:a)", "min(distinct a)": "min#1(col:a)", "max(a)": "max(col:a)", "max(all a)": "max(col:a)", "max(distinct a)": "max#1(col:a)",
		"sum(a * b + 1)": "sum(+(*(col:a col:b) num#1))", "count(distinct a or b)": "count#1(or(col:a col:b))", "max((select 1 from t))": "max(scalar(" + one + "))", "sum(count(*))": "sum(count*)", "count((a))": "count(col:a)",
	} {
		holdsEverywhere(t, text, tree)
	}
	holdsNowhere(t,
		"", "()", "(", ")", "(a", "a)", "((a)", "(a,b)", "(a b)", "a b c", "t.", ".a", "a.b.c", "t.1", "t.select", "select.a", "1 2", "1 'a'", "'a' 1", "a 1", "'a' 'b'", "1.5", "select", "from", "unknown", "key", "-- x", ",", "=", ".",
		"(select)", "(select 1)", "(select 1 from t", "((select 1 from t)", "(select 1 from t))", "((select 1 from t) + 1)", "((select 1 from t), 1)", "(((select 1 from t)) = 1)", "((select 1 from t) is null)", "((select 1 from t) order by 1)", "(select 1 from t order by 1)", "((select 1 from t) a)", "(a union select 1 from t)",
		"exists", "exists a", "exists (a)", "exists ()", "exists select 1 from t", "exists (exists (select 1 from t))", "exists (select 1 from t", "exists (t)", "exists ((select 1 from t), (select 1 from t))", "exists ((select 1 from t) + 1)",
		"cast", "cast()", "cast(a)", "cast(a as)", "cast(as int)", "cast(a int)", "cast(a as b)", "cast a as int", "cast(a as int", "cast(a, int)", "cast(a as int, 1)", "cast(a as int as int)", "cast(select 1 from t as int)", "cast(a b as int)", "cast((a as int))",
		"coalesce", "coalesce()", "coalesce a", "coalesce(a", "coalesce(a,)", "coalesce(,a)", "coalesce(a b)", "coalesce(*)", "coalesce(select 1 from t)", "coalesce(distinct a)", "coalesce((a, b))",
		"nullif", "nullif()", "nullif(a)", "nullif(a,)", "nullif(,a)", "nullif(a, b, c)", "nullif a, b", "nullif(a b)", "nullif(a, b", "nullif((a, b))",
		"count", "count()", "count(", "count *", "count a", "count(a", "count(*", "count(**)", "count((*))", "count(* a)", "count(all *)", "count(distinct *)", "count(a, b)", "count(all)", "count(distinct)", "count(all distinct a)", "count(distinct all a)", "count(distinct distinct a)", "count(t.*)", "count(select 1 from t)", "count(a distinct)",
		"sum(*)", "min(*)", "max(*)", "sum()", "min()", "max()", "sum", "min", "max", "sum a", "sum(a, b)", "sum(distinct)", "sum((distinct a))", "avg(a)", "f(a)", "a(b)", "a()", "t.count(a)", "sum.a",
	)
	// These are none, but that an item may be a star, and that a query in parentheses is one.
	isSyntax(t, "delete from t where *", "delete from t where t.*", "delete from t where (*)", "update t set a = *", "insert into t values (*)", "delete from t where select 1 from t", "insert into t values (select 1 from t)", "update t set a = select 1 from t", "select select 1 from t from t", "select 1 from t having t.*")
	reads(t, "delete from t where default", "delete:t(where(col:default))")
}

func TestCase(t *testing.T) {
	for text, tree := range map[string]string{
		"case when a then b end":                                                                         "case(when(col:a col:b) null)",
		"case when a then b else c end":                                                                  "case(when(col:a col:b) col:c)",
		"case when a then b when c then d end":                                                           "case(when(col:a col:b) when(col:c col:d) null)",
		"case when a = 1 or b then 2 when not c then 3 + 4 else 5 is null end":                           "case(when(or(=(col:a num#1) col:b) num#2) when(not(col:c) +(num#3 num#4)) is:null(num#5))",
		"case a when 1 then 2 end":                                                                       "case(when(=(col:a num#1) num#2) null)",
		"case a when 1 then 2 else 3 end":                                                                "case(when(=(col:a num#1) num#2) num#3)",
		"case a when 1 then 2 when 3 then 4 when b then c else d end":                                    "case(when(=(col:a num#1) num#2) when(=(col:a num#3) num#4) when(=(col:a col:b) col:c) col:d)",
		"case a or b when c or d then 1 when e = f then 2 end":                                           "case(when(=(or(col:a col:b) or(col:c col:d)) num#1) when(=(or(col:a col:b) =(col:e col:f)) num#2) null)",
		"case t.a when null then null else null end":                                                     "case(when(=(col:a(of:t) null) null) null)",
		"case case a when 1 then 2 end when 3 then 4 when 5 then 6 end":                                  "case(when(=(case(when(=(col:a num#1) num#2) null) num#3) num#4) when(=(case(when(=(col:a num#1) num#2) null) num#5) num#6) null)",
		"case when case when a then b end then case c when d then e end else case when f then g end end": "case(when(case(when(col:a col:b) null) case(when(=(col:c col:d) col:e) null)) case(when(col:f col:g) null))",
		"case (select 1 from t) when (select 1 from t) then (select 1 from t) end":                       "case(when(=(scalar(" + one + ") scalar(" + one + ")) scalar(" + one + ")) null)",
		"case when exists (select 1 from t) then 1 end":                                                  "case(when(exists(" + one + ") num#1) null)",
		"case not a when b then c end":                                                                   "case(when(=(not(col:a) col:b) col:c) null)",
		"case when a then b end + case when c then d end":                                                "+(case(when(col:a col:b) null) case(when(col:c col:d) null))",
	} {
		holdsEverywhere(t, text, tree)
	}
	holdsNowhere(t, "case", "case end", "case a end", "case else a end", "case a else b end", "case when end", "case when a end", "case when a then end", "case when a then b", "case when then b end", "case when a b end", "case a then b end", "case a b when c then d end", "case when a then b else end", "case when a then b else c", "case when a then b else c else d end", "case when a then b else c when d then e end", "case when a then b when c end", "case when a then b then c end", "case when a when b then c end", "case when a, b then c end", "case a, b when c then d end", "when a then b end", "case (when a then b end)", "case when a then b end end", "case a when 1 then 2 end case", "case when a else b end", "case a when = 1 then 2 end", "case a when > 1 then 2 end")
}

func TestComparisons(t *testing.T) {
	for _, sign := range []string{"=", "<>", "<", "<=", ">", ">="} {
		for text, tree := range map[string]string{
			"a S b": "S(col:a col:b)", "a + 1 S b || c": "S(+(col:a num#1) ||(col:b col:c))", "not a S b": "not(S(col:a col:b))", "(a S b) S c": "S(S(col:a col:b) col:c)", "a S (b S c)": "S(col:a S(col:b col:c))", "a S b or c S d": "or(S(col:a col:b) S(col:c col:d))", "a S b and c S d": "and(S(col:a col:b) S(col:c col:d))", "a S (not b)": "S(col:a not(col:b))", "a S -b": "S(col:a neg(col:b))", "(a or b) S (c and d)": "S(or(col:a col:b) and(col:c col:d))",
			"a S (select 1 from t)": "S(col:a scalar(" + one + "))", "(select 1 from t) S a": "S(scalar(" + one + ") col:a)", "a S b is null": "", "a S (b is null)": "S(col:a is:null(col:b))",
			"a S any (select 1 from t)": "any:S(col:a " + one + ")", "a S some (select 1 from t)": "any:S(col:a " + one + ")", "a S all (select 1 from t)": "all:S(col:a " + one + ")", "a + b S all ((select 1 from t))": "all:S(+(col:a col:b) " + one + ")", "not a S any (select 1 from t) and b": "and(not(any:S(col:a " + one + ")) col:b)", "(select 1 from t) S some ((select 1 from t) union all (select 1 from t))": "any:S(scalar(" + one + ") union#1(" + one + " " + one + "))",
		} {
			text, tree = strings.ReplaceAll(text, "S", sign), strings.ReplaceAll(tree, "S", sign)
			if tree == "" {
				holdsNowhere(t, text)
				continue
			}
			holdsEverywhere(t, text, tree)
		}
		for _, text := range []string{"a S", "S a", "a S b S c", "a S S b", "a S not b", "a not S b", "a S any", "a S any b", "a S any (b)", "a S any (1, 2)", "a S all select 1 from t", "any (select 1 from t) S a", "a S any (select 1 from t) S b", "a S any all (select 1 from t)", "a S not any (select 1 from t)", "a S any (select 1 from t) + 1", "a S 1 + any (select 1 from t)", "a S some ()", "a S (any (select 1 from t))", "a S any (select 1 from t", "a S all ((select 1 from t), 1)", "a S any ((select 1 from t) + 1)", "a S distinct b", "a S b between 1 and 2", "a S b in (1)", "a S b like c"} {
			holdsNowhere(t, strings.ReplaceAll(text, "S", sign))
		}
	}
	holdsNowhere(t, "a == b", "a =< b", "a => b", "a >< b", "a < > b", "a < = b", "a != b", "a <=> b")
}

func TestTests(t *testing.T) {
	for text, tree := range map[string]string{
		"a is null": "is:null(col:a)", "a is true": "is:true(col:a)", "a is false": "is:false(col:a)", "a is unknown": "is:unknown(col:a)",
		"a is not null": "not(is:null(col:a))", "a is not true": "not(is:true(col:a))", "a is not false": "not(is:false(col:a))", "a is not unknown": "not(is:unknown(col:a))",
		"not a is not null": "not(not(is:null(col:a)))", "a + 1 is null": "is:null(+(col:a num#1))", "null is null": "is:null(null)", "(a is null) is true": "is:true(is:null(col:a))", "(a = b) is unknown": "is:unknown(=(col:a col:b))", "(a or b) is not true": "not(is:true(or(col:a col:b)))", "(select 1 from t) is null": "is:null(scalar(" + one + "))", "a is null or b is not null and c": "or(is:null(col:a) and(not(is:null(col:b)) col:c))",
		"a between 1 and 2": "between(col:a num#1 num#2)", "a not between 1 and 2": "not(between(col:a num#1 num#2))", "a between 1 and 2 and b": "and(between(col:a num#1 num#2) col:b)", "a and b between c and d": "and(col:a between(col:b col:c col:d))", "a between b + 1 and c * 2 or d": "or(between(col:a +(col:b num#1) *(col:c num#2)) col:d)", "not a between 1 and 2": "not(between(col:a num#1 num#2))", "a - 1 between -1 and (select 1 from t)": "between(-(col:a num#1) neg(num#1) scalar(" + one + "))", "a between (b and c) and (d or e)": "between(col:a and(col:b col:c) or(col:d col:e))", "a not between b and c and d not between e and f": "and(not(between(col:a col:b col:c)) not(between(col:d col:e col:f)))", "(a between 1 and 2) between 3 and 4": "between(between(col:a num#1 num#2) num#3 num#4)",
		"a like 'x'": "like(col:a text:x)", "a not like 'x'": "not(like(col:a text:x))", "a || b like c || d": "like(||(col:a col:b) ||(col:c col:d))", "not a like b and c": "and(not(like(col:a col:b)) col:c)", "(a like b) like c": "like(like(col:a col:b) col:c)", "a not like (select 1 from t)": "not(like(col:a scalar(" + one + ")))",
		"a in (1)": "in(col:a num#1)", "a in (1, 2, 3)": "in(col:a num#1 num#2 num#3)", "a not in (1, b)": "not(in(col:a num#1 col:b))", "a in (b or c, not d)": "in(col:a or(col:b col:c) not(col:d))", "a + b in (c)": "in(+(col:a col:b) col:c)", "a in ((1), (2))": "in(col:a num#1 num#2)", "a in ((1))": "in(col:a num#1)", "a in (1, (select 1 from t))": "in(col:a num#1 scalar(" + one + "))", "not a in (1) and b": "and(not(in(col:a num#1)) col:b)", "(a in (1)) in (true)": "in(in(col:a num#1) bool#1)",
		"a in (select 1 from t)": "in:query(col:a " + one + ")", "a not in (select 1 from t)": "not(in:query(col:a " + one + "))", "a in ((select 1 from t))": "in:query(col:a " + one + ")", "a in (((select 1 from t)) union select 1 from t)": "in:query(col:a union(" + one + " " + one + "))", "(select 1 from t) not in (select 1 from t) or b": "or(not(in:query(scalar(" + one + ") " + one + ")) col:b)",
	} {
		holdsEverywhere(t, text, tree)
	}
	holdsNowhere(t,
		"a is", "is null", "a is not", "a is b", "a is 1", "a is 'null'", "a is not not null", "a not is null", "a is null null", "a is null is null", "a is null = b", "a is (null)", "a is not null or", "a null", "a not null", "a is all", "a is in (1)", "a is like b", "a not", "a not b",
		"a between", "a between 1", "a between 1 and", "a between and 2", "between 1 and 2", "a between 1 2", "a between 1, 2", "a between (1 and 2)", "a between 1 or 2", "a between not 1 and 2", "a between 1 and not 2", "a between 1 and 2 between 3 and 4", "a between b = c and d", "a not not between 1 and 2", "a between 1 and 2 = 3", "a between 1 and 2 is null", "a is between 1 and 2", "a between symmetric 1 and 2", "a between 1 and 2 3",
		"a like", "like b", "a like not b", "a like b like c", "a like b = c", "a not like", "a not not like b", "a like b escape 'c'", "a like any (select 1 from t)", "a like b is null",
		"a in", "in (1)", "a in ()", "a in 1", "a in b", "a in (1", "a in 1)", "a in (1,)", "a in (,1)", "a in (1 2)", "a in (1) in (2)", "a in (1) = b", "a not in", "a not in ()", "a not not in (1)", "a in not (1)", "a in ((1, 2))", "a in select 1 from t", "a in (select 1 from t, )", "a in (select 1 from t) + 1", "a in ((select 1 from t), 1)", "a in ((select 1 from t) + 1)", "a in (((select 1 from t)), 1)", "a in (select 1 from t order by 1)", "a in (select 1)", "a in (1) is null", "a in any (select 1 from t)", "a in (*)", "a in (1, select 1 from t)",
	)
}

func TestBinding(t *testing.T) {
	for text, tree := range map[string]string{
		"a or b": "or(col:a col:b)", "a or b or c": "or(or(col:a col:b) col:c)", "a or (b or c)": "or(col:a or(col:b col:c))",
		"a and b": "and(col:a col:b)", "a and b and c": "and(and(col:a col:b) col:c)", "a and (b and c)": "and(col:a and(col:b col:c))",
		"a or b and c": "or(col:a and(col:b col:c))", "a and b or c": "or(and(col:a col:b) col:c)", "(a or b) and c": "and(or(col:a col:b) col:c)", "a and (b or c)": "and(col:a or(col:b col:c))", "a or b and c or d": "or(or(col:a and(col:b col:c)) col:d)", "a and b or c and d": "or(and(col:a col:b) and(col:c col:d))",
		"not a": "not(col:a)", "not not a": "not(not(col:a))", "not not not a": "not(not(not(col:a)))", "not a or b": "or(not(col:a) col:b)", "not a and b": "and(not(col:a) col:b)", "a and not b": "and(col:a not(col:b))", "a or not b": "or(col:a not(col:b))", "not (a or b)": "not(or(col:a col:b))", "(not a) and b": "and(not(col:a) col:b)", "not a = b": "not(=(col:a col:b))", "(not a) = b": "=(not(col:a) col:b)", "not (not a)": "not(not(col:a))", "not a + b": "not(+(col:a col:b))", "not (a) = b": "not(=(col:a col:b))",
		"a + b": "+(col:a col:b)", "a - b": "-(col:a col:b)", "a || b": "||(col:a col:b)", "a * b": "*(col:a col:b)", "a / b": "/(col:a col:b)",
		"a + b + c": "+(+(col:a col:b) col:c)", "a - b - c": "-(-(col:a col:b) col:c)", "a - b + c": "+(-(col:a col:b) col:c)", "a + b - c": "-(+(col:a col:b) col:c)", "a || b || c": "||(||(col:a col:b) col:c)", "a || b + c": "+(||(col:a col:b) col:c)", "a + b || c": "||(+(col:a col:b) col:c)", "a - b || c - d": "-(||(-(col:a col:b) col:c) col:d)", "a - (b - c)": "-(col:a -(col:b col:c))", "a || (b + c)": "||(col:a +(col:b col:c))",
		"a * b * c": "*(*(col:a col:b) col:c)", "a / b / c": "/(/(col:a col:b) col:c)", "a / b * c": "*(/(col:a col:b) col:c)", "a * b / c": "/(*(col:a col:b) col:c)", "a / (b * c)": "/(col:a *(col:b col:c))",
		"a + b * c": "+(col:a *(col:b col:c))", "a * b + c": "+(*(col:a col:b) col:c)", "a - b / c": "-(col:a /(col:b col:c))", "a || b * c": "||(col:a *(col:b col:c))", "a / b || c": "||(/(col:a col:b) col:c)", "(a + b) * c": "*(+(col:a col:b) col:c)", "a * (b - c)": "*(col:a -(col:b col:c))", "a * b + c * d": "+(*(col:a col:b) *(col:c col:d))", "a + b * c - d": "-(+(col:a *(col:b col:c)) col:d)",
		"-a": "neg(col:a)", "- -a": "neg(neg(col:a))", "- - - 1": "neg(neg(neg(num#1)))", "-1": "neg(num#1)", "-a + b": "+(neg(col:a) col:b)", "-a * b": "*(neg(col:a) col:b)", "a * -b": "*(col:a neg(col:b))", "a - -b": "-(col:a neg(col:b))", "a + - b": "+(col:a neg(col:b))", "-(a + b)": "neg(+(col:a col:b))", "-(-a)": "neg(neg(col:a))", "a / - - b": "/(col:a neg(neg(col:b)))", "-a || -b": "||(neg(col:a) neg(col:b))", "-9223372036854775807": "neg(num#9223372036854775807)", "-(select 1 from t)": "neg(scalar(" + one + "))", "-'a'": "neg(text:a)", "-null": "neg(null)", "-t.a": "neg(col:a(of:t))", "not -a": "not(neg(col:a))", "- count(*)": "neg(count*)",
		"a + 1 = b * 2 and not c or d":                                   "or(and(=(+(col:a num#1) *(col:b num#2)) not(col:c)) col:d)",
		"a or b and not c = d + e * - f":                                 "or(col:a and(col:b not(=(col:c +(col:d *(col:e neg(col:f)))))))",
		"-a * b + c = d and e or f":                                      "or(and(=(+(*(neg(col:a) col:b) col:c) col:d) col:e) col:f)",
		"(select 1 from t) + (select 1 from t)":                          "+(scalar(" + one + ") scalar(" + one + "))",
		"a + ((select 1 from t))":                                        "+(col:a scalar(" + one + "))",
		"a * (b + (select 1 from t))":                                    "*(col:a +(col:b scalar(" + one + ")))",
		"exists (select 1 from t) and a or not exists (select 1 from t)": "or(and(exists(" + one + ") col:a) not(exists(" + one + ")))",
	} {
		holdsEverywhere(t, text, tree)
	}
	holdsNowhere(t,
		"a or", "or a", "a or or b", "a and", "and a", "a and and b", "a and or b", "a or and b", "not", "a not", "not or a", "a or b not", "not and a", "a xor b",
		"a +", "+ a", "a + + b", "a + not b", "a -", "-", "a - not b", "- not a", "-(not)", "a *", "* a", "a * * b", "a * not b", "a /", "/ a", "a / + b", "a ||", "|| a", "a || || b", "a * / b", "a % b", "a ^ b", "a +, b", "(a +) b", "a + (b", "a (+ b)", "a || not b", "- - -", "-.1", "a + *", "a - or b",
	)
}
