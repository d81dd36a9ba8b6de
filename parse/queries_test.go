package parse

import (
	"strings"
	"testing"
)

func TestSelect(t *testing.T) {
	readAll(t, []read{
		{"select 1 from t", "query(" + one + " order)"},
		{"select all 1 from t", "query(" + one + " order)"},
		{"select distinct 1 from t", "query(select#1(items(item(num#1)) from(table:t(as:t)) where group having) order)"},
		{"select a, b, c from t, u, v", "query(select(items(item(col:a) item(col:b) item(col:c)) from(table:t(as:t) table:u(as:u) table:v(as:v)) where group having) order)"},
		{"select a from t where b", "query(select(items(item(col:a)) from(table:t(as:t)) where(col:b) group having) order)"},
		{"select a from t group by b", "query(select(items(item(col:a)) from(table:t(as:t)) where group(col:b) having) order)"},
		{"select a from t group by b, t.c, d", "query(select(items(item(col:a)) from(table:t(as:t)) where group(col:b col:c(of:t) col:d) having) order)"},
		{"select a from t having c", "query(select(items(item(col:a)) from(table:t(as:t)) where group having(col:c)) order)"},
		{"select a from t order by d", "query(select(items(item(col:a)) from(table:t(as:t)) where group having) order(key:asc(col:d)))"},
		{"select a from t where b group by c having d order by e", "query(select(items(item(col:a)) from(table:t(as:t)) where(col:b) group(col:c) having(col:d)) order(key:asc(col:e)))"},
		{"select distinct a x, t.* from t, u y where b or c group by d, e having f and g order by 1, h desc",
			"query(select#1(items(item:x(col:a) star:t) from(table:t(as:t) table:u(as:y)) where(or(col:b col:c)) group(col:d col:e) having(and(col:f col:g))) order(key:asc(num#1) key:desc(col:h)))"},
	})
	isSyntax(t,
		"select", "select a", "select from t", "select a from", "select a t", "a from t", "select a, from t", "select , a from t", "select a from t,", "select a from , t", "select (a, b) from t", "select distinct from t", "select all from t", "select distinct all a from t", "select all distinct a from t", "select distinct distinct a from t", "select a distinct from t",
		"select a from t where", "select a from t where b where c", "select a where b from t", "select a from t b where", "select a from t where b, c", "select a from t group b", "select a from t by b", "select a from t group by", "select a from t group by b,", "select a from t group by 1", "select a from t group by b + c", "select a from t group by (b)", "select a from t group by b c", "select a from t group by count(*)", "select a from t group by t.", "select a from t group by t.*", "select a from t group by 'b'",
		"select a from t having", "select a from t having b group by c", "select a from t group by b where c", "select a from t having b where c", "select a from t having b having c", "select a from t group by b group by c", "select a from t where current of c", "select a from t from u",
		"select select from t", "select a from select", "select a from where", "select a as from t", "select a from t as", "select a from t as where b",
	)
}

func TestItems(t *testing.T) {
	for text, tree := range map[string]string{
		"*": "star", "t.*": "star:t", "*, *": "star star", "t.*, u.*, *": "star:t star:u star", "a, *": "item(col:a) star", "*, a": "star item(col:a)",
		"a": "item(col:a)", "a b": "item:b(col:a)", "a as b": "item:b(col:a)", "t.a": "item(col:a(of:t))", "t.a b": "item:b(col:a(of:t))", "t.a as b, c": "item:b(col:a(of:t)) item(col:c)",
		"a a": "item:a(col:a)", "1": "item(num#1)", "1 x": "item:x(num#1)", "'a' x": "item:x(text:a)", "'a' as x": "item:x(text:a)", "a or b x": "item:x(or(col:a col:b))", "a is null x": "item:x(is:null(col:a))", "(a) b": "item:b(col:a)",
		"(select 1 from t)": "item(scalar(" + one + "))", "(select 1 from t) x": "item:x(scalar(" + one + "))", "a * b": "item(*(col:a col:b))", "t.a * b": "item(*(col:a(of:t) col:b))", "a, t.*, b": "item(col:a) star:t item(col:b)",
		"count(*)": "item(count*)", "count(*) n": "item:n(count*)", "case when a then b end c": "item:c(case(when(col:a col:b) null))", "null n": "item:n(null)", "true": "item(bool#1)",
	} {
		reads(t, "select "+text+" from t", "query(select(items("+tree+") from(table:t(as:t)) where group having) order)")
		reads(t, "select distinct "+text+" from t", "query(select#1(items("+tree+") from(table:t(as:t)) where group having) order)")
	}
	for _, text := range []string{"* a", "* as a", "t.* a", "t.* as a", "t.*.a", "t..*", ".*", "t.", ".a", "a.b.c", "a as", "as a", "a as b c", "a b c", "a as 1", "a 'b'", "a as 'b'", "a as t.b", "a as (b)", "(a b)", "(a as b)", "(*)", "(t.*)", "(t).*", "t.(*)", "count.*", "select.*", "a as select", "a select", "**", "*a", "* * *", "a *", "t.* *", "t.* + 1", "t.1", "1.a", "t.'a'", "a, b,", ",", "", "t . select", "'t'.*", "1.*"} {
		isSyntax(t, "select "+text+" from t", "select distinct "+text+" from t")
	}
}

func TestOrder(t *testing.T) {
	for text, tree := range map[string]string{
		"1": "key:asc(num#1)", "1 asc": "key:asc(num#1)", "1 desc": "key:desc(num#1)", "0": "key:asc(num)", "9223372036854775807": "key:asc(num#9223372036854775807)",
		"a": "key:asc(col:a)", "a asc": "key:asc(col:a)", "a desc": "key:desc(col:a)", "t.a": "key:asc(col:a(of:t))", "t.a asc": "key:asc(col:a(of:t))", "t.a desc": "key:desc(col:a(of:t))",
		"a, 2, c desc, t.d, 5 asc": "key:asc(col:a) key:asc(num#2) key:desc(col:c) key:asc(col:d(of:t)) key:asc(num#5)", "a desc, a desc": "key:desc(col:a) key:desc(col:a)",
	} {
		reads(t, "select 1 from t order by "+text, "query("+one+" order("+tree+"))")
		reads(t, "(select 1 from t) order by "+text, "query("+one+" order("+tree+"))")
		reads(t, "select 1 from t union select 1 from t order by "+text, "query(union("+one+" "+one+") order("+tree+"))")
		reads(t, "declare c cursor for select 1 from t order by "+text+" for update", "declare:c(query("+one+" order("+tree+")) for:update)")
	}
	for _, text := range []string{"", "asc", "desc", "-1", "1 + 1", "a + 1", "(a)", "(1)", "'a'", "a,", ", a", "a b", "a asc desc", "a desc asc", "a asc asc", "a desc desc", "asc a", "null", "true", "count(*)", "t.*", "*", "t.", ".a", "a.b.c", "t.1", "a, b c", "1 2", "t.select", "select", "a is null", "a order by b", "a group by b", "case when a then b end"} {
		isSyntax(t, "select 1 from t order by "+text)
	}
	isSyntax(t, "select 1 from t order 1", "select 1 from t by 1", "select 1 from t order by 1 where a", "select 1 from t order by 1 union select 1 from t", "(select 1 from t order by 1)", "(select 1 from t order by 1) union select 1 from t", "select 1 from (select 1 from t order by 1) x", "delete from t where a in (select 1 from t order by 1)", "delete from t where exists (select 1 from t order by a)", "order by 1")
}

// sel is `select NAME from t`, and its tree.
func sel(name string) (text, tree string) {
	return "select " + name + " from t", "select(items(item(col:" + name + ")) from(table:t(as:t)) where group having)"
}

// A body written in short: of names each is a select, and what stands between them is as it is.
func TestSets(t *testing.T) {
	for short, tree := range map[string]string{
		"A": "A", "(A)": "A", "((A))": "A",
		"A union B": "union(A B)", "A union all B": "union#1(A B)", "A except B": "except(A B)", "A except all B": "except#1(A B)", "A intersect B": "intersect(A B)", "A intersect all B": "intersect#1(A B)",
		"A union B union C": "union(union(A B) C)", "A except B except C": "except(except(A B) C)", "A intersect B intersect C": "intersect(intersect(A B) C)",
		"A union B except C": "except(union(A B) C)", "A except B union C": "union(except(A B) C)", "A except all B union C except D": "except(union(except#1(A B) C) D)",
		"A union B intersect C": "union(A intersect(B C))", "A intersect B union C": "union(intersect(A B) C)", "A except B intersect C": "except(A intersect(B C))", "A intersect B except C": "except(intersect(A B) C)",
		"A union all B intersect all C union D": "union(union#1(A intersect#1(B C)) D)", "A intersect B union C intersect D": "union(intersect(A B) intersect(C D))", "A intersect all B intersect C union all D": "union#1(intersect(intersect#1(A B) C) D)",
		"A union (B union C)": "union(A union(B C))", "A except (B except C)": "except(A except(B C))", "A intersect (B intersect C)": "intersect(A intersect(B C))", "(A union B) intersect C": "intersect(union(A B) C)", "A intersect (B union C)": "intersect(A union(B C))", "(A union B) union C": "union(union(A B) C)", "(A intersect B) union C": "union(intersect(A B) C)", "(A) union (B)": "union(A B)", "((A) union ((B)))": "union(A B)", "((A union B) except all (C)) intersect D": "intersect(except#1(union(A B) C) D)",
	} {
		var names, trees []string
		for _, name := range []string{"A", "B", "C", "D"} {
			s, n := sel(strings.ToLower(name))
			names, trees = append(names, name, s), append(trees, name, n)
		}
		body, want := strings.NewReplacer(names...).Replace(short), strings.NewReplacer(trees...).Replace(tree)
		reads(t, body, "query("+want+" order)")
		reads(t, body+" order by 1", "query("+want+" order(key:asc(num#1)))")
		reads(t, "insert into t "+body, "insert:t(columns "+want+")")
		reads(t, "declare c cursor for "+body+" for read only", "declare:c(query("+want+" order) for:read only)")
		reads(t, "select 1 from ("+body+") x", from("derived:x("+want+")"))
		reads(t, "delete from t where ("+body+")", "delete:t(where(scalar("+want+")))")
		reads(t, "delete from t where exists ("+body+")", "delete:t(where(exists("+want+")))")
		reads(t, "delete from t where a in ("+body+")", "delete:t(where(in:query(col:a "+want+")))")
		reads(t, "delete from t where a <> all ("+body+")", "delete:t(where(all:<>(col:a "+want+")))")
	}
	a, _ := sel("a")
	isSyntax(t, a+" union", "union "+a, a+" union distinct "+a, a+" union all all "+a, a+" union union "+a, a+" all "+a, a+" all union "+a, a+" intersect", a+" except", a+" except all", a+" union all", a+" union t", a+" union (t)", "("+a+" union) "+a, "("+a+") ("+a+")", "("+a, a+")", "(("+a+")", "("+a+"))", "()", "() union "+a, a+" minus "+a, a+" union values (1)", "("+a+") x", "("+a+") where b", "("+a+") as x", "(a) union "+a)
}
