package parse

import "testing"

func TestTables(t *testing.T) {
	for text, tree := range map[string]string{
		"t": "table:t(as:t)", "t x": "table:t(as:x)", "t as x": "table:t(as:x)", "t t": "table:t(as:t)", "t as t, u as t": "table:t(as:t) table:u(as:t)", "t, u x, v": "table:t(as:t) table:u(as:x) table:v(as:v)",
		"(t)": "table:t(as:t)", "((t))": "table:t(as:t)", "(t x)": "table:t(as:x)", "(((t as x)))": "table:t(as:x)", "(t), (u)": "table:t(as:t) table:u(as:u)",
		"(select 1 from t) x": "derived:x(" + one + ")", "(select 1 from t) as x": "derived:x(" + one + ")", "((select 1 from t)) x": "derived:x(" + one + ")", "(((select 1 from t))) as x": "derived:x(" + one + ")", "(select 1 from (select 1 from t) y) x": "derived:x(select(items(item(num#1)) from(derived:y(" + one + ")) where group having))",
		"t, (select 1 from t) x, u": "table:t(as:t) derived:x(" + one + ") table:u(as:u)", "((select 1 from t) union select 1 from t) x": "derived:x(union(" + one + " " + one + "))", "(select 1 from t intersect all (select 1 from t)) as x": "derived:x(intersect#1(" + one + " " + one + "))",
	} {
		reads(t, "select 1 from "+text, from(tree))
	}
	for _, text := range []string{
		"", "t as", "as t", "t as x y", "t x y", "t.u", "t 'x'", "'t'", "1", "t as 1", "(t", "t)", "((t)", "()", "(t) x", "(t) as x", "(t, u)", "(t x) y", "t (x)", "t as (x)", "t x.y", "t as select", "select", "t,", ",t", "t,,u", "*",
		"(select 1 from t)", "(select 1 from t) as", "(select 1 from t) select", "(select 1 from t) 'x'", "(select 1 from t) x y", "((select 1 from t) x)", "((select 1 from t) as x)", "((select 1 from t) x, t)", "((select 1 from t) x cross join u)", "(((select 1 from t) x) cross join u)", "select 1 from t", "select 1 from t x", "(select 1 from t union) x", "(select 1 from t order by 1) x", "(t union select 1 from t) x", "(values (1)) x", "(select) x",
	} {
		isSyntax(t, "select 1 from "+text)
	}
}

func TestJoins(t *testing.T) {
	a, b, c, d := "table:a(as:a)", "table:b(as:b)", "table:c(as:c)", "table:d(as:d)"
	for op, ways := range map[string][]string{"inner": {"join", "inner join"}, "left": {"left join", "left outer join"}, "right": {"right join", "right outer join"}, "full": {"full join", "full outer join"}} {
		for _, way := range ways {
			reads(t, "select 1 from a "+way+" b on x", from(op+"("+a+" "+b+" col:x)"))
			reads(t, "select 1 from a as y "+way+" b z on x or y and not z = 1", from(op+"(table:a(as:y) table:b(as:z) or(col:x and(col:y not(=(col:z num#1)))))"))
			reads(t, "select 1 from a "+way+" b on x "+way+" c on y", from(op+"("+op+"("+a+" "+b+" col:x) "+c+" col:y)"))
			reads(t, "select 1 from a "+way+" (b "+way+" c on x) on y", from(op+"("+a+" "+op+"("+b+" "+c+" col:x) col:y)"))
			reads(t, "select 1 from (a "+way+" b on x) "+way+" c on y", from(op+"("+op+"("+a+" "+b+" col:x) "+c+" col:y)"))
			reads(t, "select 1 from a "+way+" b on x cross join c", from("cross("+op+"("+a+" "+b+" col:x) "+c+")"))
			reads(t, "select 1 from a cross join b "+way+" c on x", from(op+"(cross("+a+" "+b+") "+c+" col:x)"))
			reads(t, "select 1 from a, b "+way+" c on x, d", from(a+" "+op+"("+b+" "+c+" col:x) "+d))
			reads(t, "select 1 from (select 1 from t) x "+way+" (select 1 from t) as y on z", from(op+"(derived:x("+one+") derived:y("+one+") col:z)"))
			reads(t, "select 1 from a "+way+" ((b)) on (x)", from(op+"("+a+" "+b+" col:x)"))
			reads(t, "select 1 from ((a "+way+" b on x))", from(op+"("+a+" "+b+" col:x)"))
			for _, text := range []string{"a " + way, "a " + way + " b", "a " + way + " b on", "a " + way + " on x", way + " b on x", "a " + way + " b x on y z", "a " + way + " b on x on y", "a " + way + " b, c on x", "a " + way + " b on x y", "a " + way + " " + way + " b on x", "a " + way + " b where x", "a " + way + " b using (x)", "(a " + way + " b) on x", "a " + way + " b on x, y on z", "a natural " + way + " b", "a outer " + way + " b on x", "a cross " + way + " b on x", "(a " + way + " b on x) y", "a " + way + " b " + way + " c on x on y", "a " + way + " (select 1 from t) on x", "a " + way + " b on x c"} {
				isSyntax(t, "select 1 from "+text)
			}
		}
	}
	for text, tree := range map[string]string{
		"a cross join b": "cross(" + a + " " + b + ")", "a cross join b cross join c": "cross(cross(" + a + " " + b + ") " + c + ")", "a cross join (b cross join c)": "cross(" + a + " cross(" + b + " " + c + "))", "(a cross join b) cross join c": "cross(cross(" + a + " " + b + ") " + c + ")", "(a cross join b), (c)": "cross(" + a + " " + b + ") " + c,
		"a left join b on x join c on y right outer join d on z": "right(inner(left(" + a + " " + b + " col:x) " + c + " col:y) " + d + " col:z)",
		"a full join (b inner join c on x cross join d) on y":    "full(" + a + " cross(inner(" + b + " " + c + " col:x) " + d + ") col:y)",
		"a join b on exists (select 1 from t)":                   "inner(" + a + " " + b + " exists(" + one + "))",
		"a join b on (select 1 from t)":                          "inner(" + a + " " + b + " scalar(" + one + "))",
	} {
		reads(t, "select 1 from "+text, from(tree))
		reads(t, "select 1 from "+text+" where w", from(tree)[:len(from(tree))-len(" where group having) order)")]+" where(col:w) group having) order)")
	}
	for _, text := range []string{"a cross b", "a cross join", "cross join b", "a cross join b on x", "a cross outer join b", "a inner b on x", "a inner outer join b on x", "a outer join b on x", "a left b on x", "a left outer b on x", "a left right join b on x", "a left inner join b on x", "a left outer outer join b on x", "a outer left join b on x", "a left", "a full outer", "a inner", "a join", "(a cross join b) x", "(a cross join b) as x", "(a, b) cross join c", "a cross join b, ", "a cross (join b)", "a (cross join b)", "a left cross join b", "a left (outer) join b on x"} {
		isSyntax(t, "select 1 from "+text)
	}
}
