package eval

import (
	"reflect"
	"testing"

	"stile/api"
	"stile/parse"
	"stile/value"
)

// replies holds answers of many forms, by their names.
func replies() map[string]reply {
	return map[string]reply{
		"none":   column(),
		"nil":    {state: api.Done},
		"null":   column(null),
		"n1":     column(num(1)),
		"n2":     column(num(2)),
		"n123":   column(num(1), num(2), num(3)),
		"n1null": column(num(1), null),
		"null1":  column(null, num(1)),
		"n22":    column(num(2), num(2)),
		"texts":  column(text("a "), text("b")),
		"yes":    column(boolean(true)),
		"no":     column(boolean(false)),
		"mixed":  column(num(1), text("a"), num(2)),
		"empty":  {[]api.Row{{}}, api.Done},
		"empty2": {[]api.Row{{}, nil}, api.Done},
		"wide":   {[]api.Row{{num(1), text("a")}, {num(2), null}}, api.Done},
		"wide1":  {[]api.Row{{num(5), text("a"), num(6)}}, api.Done},
		"bad":    wrong(api.NoRoom),
		"parked": {[]api.Row{{num(1)}}, api.Parked},
		"blank":  {[]api.Row{{num(1)}}, ""},
	}
}

type searchCase struct {
	text  string
	want  api.Value
	state api.State
}

func trySearches(t *testing.T, cases []searchCase) {
	t.Helper()
	for _, x := range cases {
		s := &script{replies: replies()}
		is(t, "P17.1", tree(t, x.text), []api.Row{{num(1)}}, s.run, x.want, x.state)
	}
}

func TestExistsAndScalar(t *testing.T) {
	trySearches(t, []searchCase{
		{"exists (select 1 from none)", boolean(false), api.Done},
		{"exists (select 1 from nil)", boolean(false), api.Done},
		{"exists (select 1 from null1)", boolean(true), api.Done},
		{"exists (select 1 from n1)", boolean(true), api.Done},
		{"exists (select 1 from n123)", boolean(true), api.Done},
		{"exists (select 1 from empty)", boolean(true), api.Done},
		{"exists (select 1 from no)", boolean(true), api.Done},
		{"exists (select 1 from bad)", null, api.NoRoom},
		{"exists (select 1 from parked)", null, api.Parked},
		{"exists (select 1 from blank)", null, ""},
		{"not exists (select 1 from none)", boolean(true), api.Done},
		{"(select 1 from none)", null, api.Done},
		{"(select 1 from nil)", null, api.Done},
		{"(select 1 from n1)", num(1), api.Done},
		{"(select 1 from empty)", null, api.Done},
		{"(select 1 from wide1)", num(5), api.Done},
		{"(select 1 from n1null)", null, api.Cardinal},
		{"(select 1 from null1)", null, api.Cardinal},
		{"(select 1 from n22)", null, api.Cardinal},
		{"(select 1 from n123)", null, api.Cardinal},
		{"(select 1 from empty2)", null, api.Cardinal},
		{"(select 1 from bad)", null, api.NoRoom},
		{"(select 1 from parked)", null, api.Parked},
		{"(select 1 from blank)", null, ""},
		{"(select 1 from n1) + (select 1 from n2)", num(3), api.Done},
		{"(select 1 from yes) and (select 1 from n1)", null, api.Mismatch},
		{"(select 1 from n1 union select 1 from n2)", num(1), api.Done},
	})
}

func TestInQuery(t *testing.T) {
	trySearches(t, []searchCase{
		{"1 in (select 1 from none)", boolean(false), api.Done},
		{"null in (select 1 from none)", boolean(false), api.Done},
		{"1 in (select 1 from n1)", boolean(true), api.Done},
		{"3 in (select 1 from n123)", boolean(true), api.Done},
		{"4 in (select 1 from n123)", boolean(false), api.Done},
		{"4 in (select 1 from n1null)", null, api.Done},
		{"1 in (select 1 from n1null)", boolean(true), api.Done},
		{"1 in (select 1 from null1)", boolean(true), api.Done},
		{"null in (select 1 from n123)", null, api.Done},
		{"null in (select 1 from null1)", null, api.Done},
		{"1 in (select 1 from empty)", null, api.Done},
		{"1 in (select 1 from empty2)", null, api.Done},
		{"2 in (select 1 from wide)", boolean(true), api.Done},
		{"'a' in (select 1 from texts)", boolean(true), api.Done},
		{"'a' in (select 1 from wide)", null, api.Mismatch},
		{"'c' in (select 1 from texts)", boolean(false), api.Done},
		{"1 in (select 1 from texts)", null, api.Mismatch},
		{"1 in (select 1 from mixed)", null, api.Mismatch},
		{"null in (select 1 from mixed)", null, api.Done},
		{"1 in (select 1 from bad)", null, api.NoRoom},
		{"1 in (select 1 from parked)", null, api.Parked},
		{"1 / 0 in (select 1 from bad)", null, api.Zero},
		{"1 not in (select 1 from n1)", boolean(false), api.Done},
		{"4 not in (select 1 from n1null)", null, api.Done},
	})
}

func TestAnyAndAll(t *testing.T) {
	trySearches(t, []searchCase{
		{"1 = any (select 1 from none)", boolean(false), api.Done},
		{"1 = all (select 1 from none)", boolean(true), api.Done},
		{"null = any (select 1 from none)", boolean(false), api.Done},
		{"null = all (select 1 from none)", boolean(true), api.Done},
		{"2 < any (select 1 from n123)", boolean(true), api.Done},
		{"3 < any (select 1 from n123)", boolean(false), api.Done},
		{"2 < all (select 1 from n123)", boolean(false), api.Done},
		{"0 < all (select 1 from n123)", boolean(true), api.Done},
		{"0 < some (select 1 from n123)", boolean(true), api.Done},
		{"2 = any (select 1 from n123)", boolean(true), api.Done},
		{"2 <> any (select 1 from n123)", boolean(true), api.Done},
		{"2 <> all (select 1 from n123)", boolean(false), api.Done},
		{"4 <> all (select 1 from n123)", boolean(true), api.Done},
		{"2 = all (select 1 from n22)", boolean(true), api.Done},
		{"2 <> any (select 1 from n22)", boolean(false), api.Done},
		{"3 >= all (select 1 from n123)", boolean(true), api.Done},
		{"3 > all (select 1 from n123)", boolean(false), api.Done},
		{"1 <= all (select 1 from n123)", boolean(true), api.Done},
		{"1 >= any (select 1 from n123)", boolean(true), api.Done},
		{"0 >= any (select 1 from n123)", boolean(false), api.Done},
		{"1 = any (select 1 from null1)", boolean(true), api.Done},
		{"2 = any (select 1 from null1)", null, api.Done},
		{"1 = all (select 1 from n1null)", null, api.Done},
		{"2 = all (select 1 from n1null)", boolean(false), api.Done},
		{"null = any (select 1 from n123)", null, api.Done},
		{"null = all (select 1 from n123)", null, api.Done},
		{"1 = any (select 1 from empty)", null, api.Done},
		{"1 = all (select 1 from empty2)", null, api.Done},
		{"5 = all (select 1 from wide1)", boolean(true), api.Done},
		{"1 = any (select 1 from mixed)", null, api.Mismatch},
		{"5 = all (select 1 from mixed)", null, api.Mismatch},
		{"1 = any (select 1 from bad)", null, api.NoRoom},
		{"1 = all (select 1 from parked)", null, api.Parked},
		{"1 / 0 = any (select 1 from bad)", null, api.Zero},
		{"1 / 0 = all (select 1 from none)", null, api.Zero},
	})
}

func TestAnyAndAllOfAllTruths(t *testing.T) {
	// The rows are such that 0 < them comes to the truths.
	of := func(v api.Value) api.Value {
		switch v {
		case boolean(true):
			return num(1)
		case boolean(false):
			return num(0)
		}
		return null
	}
	for i, a := range truths() {
		for j, b := range truths() {
			s := &script{replies: map[string]reply{"q": column(of(a), of(b))}}
			is(t, "P17.1", tree(t, "0 < any (select 1 from q)"), nil, s.run, truths()[max(i, j)], api.Done)
			is(t, "P17.1", tree(t, "0 < all (select 1 from q)"), nil, s.run, truths()[min(i, j)], api.Done)
		}
	}
	for _, sign := range signs() {
		for _, a := range samples() {
			for _, b := range samples() {
				s := &script{replies: map[string]reply{"q": one(b)}}
				truth, state := value.Test(sign, a, b)
				for _, op := range []string{"any", "all"} {
					is(t, "P17.1", named(op, sign, leaf(a), named("select", "q")), nil, s.run, value.Back(truth), state)
				}
				if sign == "=" {
					is(t, "P17.1", named("in", "query", leaf(a), named("select", "q")), nil, s.run, value.Back(truth), state)
				}
			}
		}
	}
}

func TestSignsThatAreNone(t *testing.T) {
	for _, sign := range []string{"", "==", "!=", "in", "query", "and", "<<"} {
		for _, op := range []string{"any", "all"} {
			s := &script{replies: map[string]reply{"q": one(null), "none": column()}}
			is(t, "P17.1", named(op, sign, leaf(num(1)), named("select", "q")), nil, s.run, null, api.Syntax)
			is(t, "P17.1", named(op, sign, leaf(null), named("select", "q")), nil, s.run, null, api.Syntax)
			is(t, "P17.1", named(op, sign, leaf(num(1)), named("select", "none")), nil, s.run, boolean(op == "all"), api.Done)
		}
	}
}

func TestWhatRunIsHanded(t *testing.T) {
	bodies := "(select distinct a, b from q, (select 1 from r) as x where exists (select 2 from r) union all select 2, 3 from q)"
	for _, around := range []string{"exists #", "#", "1 in #", "1 = any #", "1 < all #", "#"} {
		statement, state := parse.Parse("delete from t where " + replaced(around, bodies))
		if state != api.Done {
			t.Fatal(around)
		}
		n := statement.L[0].L[0]
		body := n.L[len(n.L)-1]
		want, rows, given := copied(body), []api.Row{{num(1), text("a")}, nil, {null}}, 0
		run := func(b api.Node, r []api.Row) ([]api.Row, api.State) {
			given++
			if !reflect.DeepEqual(normal(b), normal(want)) || len(b.L) > 0 && &b.L[0] != &body.L[0] {
				t.Errorf("P17.1: %s: handed was %s", around, show(b))
			}
			if len(r) != len(rows) || &r[0] != &rows[0] {
				t.Errorf("P17.1: %s: handed was %v", around, r)
			}
			return nil, api.Done
		}
		if _, state := Value(n, rows, run); state != api.Done || given != 1 {
			t.Errorf("P17.1: %s: %s, asked %d times", around, state, given)
		}
	}
	// A query's rows may hang on the rows around it.
	run := func(_ api.Node, r []api.Row) ([]api.Row, api.State) { return []api.Row{r[1], r[0]}, api.Done }
	rows := []api.Row{{num(1)}, {num(2)}}
	is(t, "P17.1", tree(t, "2 <= all (select 1 from q)"), rows, run, boolean(false), api.Done)
	is(t, "P17.1", tree(t, "2 <= all (select 1 from q)"), []api.Row{{num(3)}, {num(2)}}, run, boolean(true), api.Done)
}

func TestWithoutRows(t *testing.T) {
	var handed []api.Row
	run := func(_ api.Node, r []api.Row) ([]api.Row, api.State) {
		handed = r
		return nil, api.Done
	}
	is(t, "P17.1", tree(t, "exists (select 1 from q)"), nil, run, boolean(false), api.Done)
	if len(handed) != 0 {
		t.Errorf("P17.1: handed was %v", handed)
	}
}

func TestNobodyToAsk(t *testing.T) {
	for _, text := range []string{"exists (select 1 from q)", "(select 1 from q)", "1 in (select 1 from q)", "1 = any (select 1 from q)", "1 = all (select 1 from q)"} {
		is(t, "P17.1", tree(t, text), nil, nil, null, api.Syntax)
		is(t, "P17.2", node("and", leaf(boolean(false)), tree(t, text)), nil, nil, boolean(false), api.Done)
	}
}
