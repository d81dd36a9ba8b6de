package eval

import (
	"testing"

	"stile/api"
	"stile/bind"
	"stile/catalog"
	"stile/parse"
)

// parsed is a statement's tree.
func parsed(t *testing.T, text string) api.Node {
	t.Helper()
	n, state := parse.Parse(text)
	if state != api.Done {
		t.Fatalf("no statement: %s: %s", text, state)
	}
	return n
}

func TestBoundExpressions(t *testing.T) {
	table, state := catalog.Define(nil, parsed(t, "create table t (a integer primary key, b char(3), c boolean, d bigint)"))
	if state != api.Done {
		t.Fatal(state)
	}
	row := api.Row{num(5), text("x  "), null, num(-2)}
	for _, x := range []struct {
		text  string
		want  api.Value
		state api.State
	}{
		{"1 = 0 and 1/0 = 1", boolean(false), api.Done},
		{"null in (1, null)", null, api.Done},
		{"3 in (1, 3, 1/0)", boolean(true), api.Done},
		{"1 / 0 = 1", null, api.Zero},
		{"a + d * 2 = 1", boolean(true), api.Done},
		{"t.b = 'x'", boolean(true), api.Done},
		{"b like 'x'", boolean(false), api.Done},
		{"b like 'x__'", boolean(true), api.Done},
		{"b || 'y' = 'x  y'", boolean(true), api.Done},
		{"c", null, api.Done},
		{"c is unknown", boolean(true), api.Done},
		{"not c or a > 4", boolean(true), api.Done},
		{"c and a > 4", null, api.Done},
		{"case when c then 1 when a between 5 and 6 then 2 end = 2", boolean(true), api.Done},
		{"case a when 4 then 'four' when 5 then 'five' end = 'five'", boolean(true), api.Done},
		{"cast(a as char(2)) = '5'", boolean(true), api.Done},
		{"coalesce(c, a = 5)", boolean(true), api.Done},
		{"a / (d + 2) > 0", null, api.Zero},
		{"(a + d) in (1, 3)", boolean(true), api.Done},
		{"a = (select a from t)", boolean(true), api.Done},
		{"a in (select 4 from t)", boolean(true), api.Done},
		{"exists (select 1 from t where a > 7)", boolean(true), api.Done},
	} {
		n, _, state := bind.Expr([]api.Table{table}, table, parsed(t, "delete from t where "+x.text).L[0].L[0])
		if state != api.Done {
			t.Fatalf("not bound: %s: %s", x.text, state)
		}
		is(t, "P17.1", n, []api.Row{row}, replying(num(5)), x.want, x.state)
	}
}
