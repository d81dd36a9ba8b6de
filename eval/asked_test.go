package eval

import (
	"slices"
	"strings"
	"testing"

	"stile/api"
)

// twoParts holds operations on two numbers, texts or truth values, whose parts are always both asked.
func twoParts() map[string][2]api.Value {
	numbers, words := [2]api.Value{num(6), num(2)}, [2]api.Value{text("a"), text("b")}
	return map[string][2]api.Value{
		"p1 + p2": numbers, "p1 - p2": numbers, "p1 * p2": numbers, "p1 / p2": numbers, "p1 || p2": words,
		"p1 = p2": numbers, "p1 <> p2": numbers, "p1 < p2": numbers, "p1 <= p2": numbers, "p1 > p2": numbers, "p1 >= p2": numbers,
		"p1 like p2": words, "nullif(p1, p2)": numbers,
		"p1 in (p2)": numbers, "p1 in (select 1 from p2)": numbers, "p1 = any (select 1 from p2)": numbers, "p1 < all (select 1 from p2)": numbers,
	}
}

func TestBothPartsFromTheLeft(t *testing.T) {
	for text, v := range twoParts() {
		n := tree(t, text)
		for _, x := range []struct {
			p1, p2 reply
			state  api.State
			asked  []string
		}{
			{one(v[0]), one(v[1]), api.Done, []string{"p1", "p2"}},
			{one(null), one(v[1]), api.Done, []string{"p1", "p2"}},
			{one(v[0]), one(null), api.Done, []string{"p1", "p2"}},
			{one(null), one(null), api.Done, []string{"p1", "p2"}},
			{wrong(api.Victim), one(v[1]), api.Victim, []string{"p1"}},
			{wrong(api.Victim), wrong(api.NoRoom), api.Victim, []string{"p1"}},
			{one(v[0]), wrong(api.NoRoom), api.NoRoom, []string{"p1", "p2"}},
			{one(null), wrong(api.NoRoom), api.NoRoom, []string{"p1", "p2"}},
			{one(boolean(true)), wrong(api.NoRoom), api.NoRoom, []string{"p1", "p2"}},
		} {
			s := &script{replies: map[string]reply{"p1": x.p1, "p2": x.p2}}
			got, state := Value(n, nil, s.run)
			if state != x.state || state != api.Done && got != null {
				t.Errorf("P17.1: %s of %v, %v: %v, %s, not %s", text, x.p1, x.p2, got, state, x.state)
			}
			if !slices.Equal(s.asked, x.asked) {
				t.Errorf("P17.1: %s of %v, %v: asked were %v", text, x.p1, x.p2, s.asked)
			}
		}
	}
}

func TestOnePart(t *testing.T) {
	for _, text := range []string{"-p1", "not p1", "p1 is null", "p1 is true", "p1 is false", "p1 is unknown", "cast(p1 as integer)", "coalesce(p1)", "exists (select 1 from p1)", "case when false then 1 else p1 end"} {
		s := &script{replies: map[string]reply{"p1": wrong(api.Victim)}}
		is(t, "P17.1", tree(t, text), nil, s.run, null, api.Victim)
		if !slices.Equal(s.asked, []string{"p1"}) {
			t.Errorf("P17.1: %s: asked were %v", text, s.asked)
		}
	}
}

func TestAskedOfAndOr(t *testing.T) {
	yes, no, unknown, zero := one(boolean(true)), one(boolean(false)), one(null), wrong(api.Zero)
	for _, x := range []struct {
		text   string
		p1, p2 reply
		want   api.Value
		state  api.State
		asked  string
	}{
		{"p1 and p2", no, zero, boolean(false), api.Done, "p1"},
		{"p1 and p2", no, one(num(1)), boolean(false), api.Done, "p1"},
		{"p1 and p2", yes, zero, null, api.Zero, "p1 p2"},
		{"p1 and p2", unknown, zero, null, api.Zero, "p1 p2"},
		{"p1 and p2", unknown, no, boolean(false), api.Done, "p1 p2"},
		{"p1 and p2", yes, yes, boolean(true), api.Done, "p1 p2"},
		{"p1 and p2", zero, no, null, api.Zero, "p1"},
		{"p1 and p2", one(num(0)), zero, null, api.Mismatch, "p1"},
		{"p1 or p2", yes, zero, boolean(true), api.Done, "p1"},
		{"p1 or p2", yes, one(text("")), boolean(true), api.Done, "p1"},
		{"p1 or p2", no, zero, null, api.Zero, "p1 p2"},
		{"p1 or p2", unknown, zero, null, api.Zero, "p1 p2"},
		{"p1 or p2", unknown, yes, boolean(true), api.Done, "p1 p2"},
		{"p1 or p2", no, no, boolean(false), api.Done, "p1 p2"},
		{"p1 or p2", zero, yes, null, api.Zero, "p1"},
		{"p1 or p2", one(num(1)), zero, null, api.Mismatch, "p1"},
	} {
		asks(t, "P17.2", x.text, map[string]reply{"p1": x.p1, "p2": x.p2}, x.want, x.state, strings.Fields(x.asked)...)
	}
}

func TestAskedOfMany(t *testing.T) {
	yes, no, unknown, zero := one(boolean(true)), one(boolean(false)), one(null), wrong(api.Zero)
	n1, n2, n3, word := one(num(1)), one(num(2)), one(num(3)), one(text("a"))
	for _, x := range []struct {
		text    string
		replies []reply
		want    api.Value
		state   api.State
		asked   string
	}{
		{"coalesce(p1, p2, p3)", []reply{n1, zero, zero}, num(1), api.Done, "p1"},
		{"coalesce(p1, p2, p3)", []reply{unknown, no, zero}, boolean(false), api.Done, "p1 p2"},
		{"coalesce(p1, p2, p3)", []reply{unknown, unknown, n3}, num(3), api.Done, "p1 p2 p3"},
		{"coalesce(p1, p2, p3)", []reply{unknown, unknown, unknown}, null, api.Done, "p1 p2 p3"},
		{"coalesce(p1, p2, p3)", []reply{unknown, zero, n3}, null, api.Zero, "p1 p2"},
		{"p1 in (p2, p3, p4)", []reply{n1, n1, zero, zero}, boolean(true), api.Done, "p1 p2"},
		{"p1 in (p2, p3, p4)", []reply{n1, n2, n1, zero}, boolean(true), api.Done, "p1 p2 p3"},
		{"p1 in (p2, p3, p4)", []reply{n1, unknown, n1, zero}, boolean(true), api.Done, "p1 p2 p3"},
		{"p1 in (p2, p3, p4)", []reply{n1, n2, n3, n1}, boolean(true), api.Done, "p1 p2 p3 p4"},
		{"p1 in (p2, p3, p4)", []reply{n1, n2, n3, n2}, boolean(false), api.Done, "p1 p2 p3 p4"},
		{"p1 in (p2, p3, p4)", []reply{n1, n2, zero, n1}, null, api.Zero, "p1 p2 p3"},
		{"p1 in (p2, p3, p4)", []reply{n1, word, zero, n1}, null, api.Mismatch, "p1 p2"},
		{"p1 in (p2, p3, p4)", []reply{unknown, n1, n2, n3}, null, api.Done, "p1 p2 p3 p4"},
		{"p1 in (p2, p3, p4)", []reply{unknown, n1, n2, zero}, null, api.Zero, "p1 p2 p3 p4"},
		{"p1 in (p2, p3, p4)", []reply{zero, n1, n2, n3}, null, api.Zero, "p1"},
		{"p1 between p2 and p3", []reply{n1, n2, n3}, boolean(false), api.Done, "p1 p2 p3"},
		{"p1 between p2 and p3", []reply{n1, n2, zero}, null, api.Zero, "p1 p2 p3"},
		{"p1 between p2 and p3", []reply{n1, word, zero}, null, api.Zero, "p1 p2 p3"},
		{"p1 between p2 and p3", []reply{n1, n2, word}, null, api.Mismatch, "p1 p2 p3"},
		{"p1 between p2 and p3", []reply{n1, zero, word}, null, api.Zero, "p1 p2"},
		{"p1 between p2 and p3", []reply{zero, n1, n1}, null, api.Zero, "p1"},
		{"case when p1 then p2 when p3 then p4 else p5 end", []reply{yes, n1, zero, zero, zero}, num(1), api.Done, "p1 p2"},
		{"case when p1 then p2 when p3 then p4 else p5 end", []reply{no, zero, yes, n2, zero}, num(2), api.Done, "p1 p3 p4"},
		{"case when p1 then p2 when p3 then p4 else p5 end", []reply{unknown, zero, yes, unknown, zero}, null, api.Done, "p1 p3 p4"},
		{"case when p1 then p2 when p3 then p4 else p5 end", []reply{unknown, zero, no, zero, n3}, num(3), api.Done, "p1 p3 p5"},
		{"case when p1 then p2 when p3 then p4 else p5 end", []reply{no, zero, zero, n1, n3}, null, api.Zero, "p1 p3"},
		{"case when p1 then p2 when p3 then p4 else p5 end", []reply{n1, n1, yes, n1, n3}, null, api.Mismatch, "p1"},
		{"case when p1 then p2 when p3 then p4 else p5 end", []reply{yes, zero, yes, n1, n3}, null, api.Zero, "p1 p2"},
		{"case when p1 then p2 when p3 then p4 else p5 end", []reply{no, n1, no, n1, zero}, null, api.Zero, "p1 p3 p5"},
		{"case p1 when p2 then p3 when p4 then p5 end", []reply{n1, n1, n3, zero, zero}, num(3), api.Done, "p1 p2 p3"},
		{"case p1 when p2 then p3 when p4 then p5 end", []reply{n1, n2, zero, n1, n3}, num(3), api.Done, "p1 p2 p1 p4 p5"},
		{"case p1 when p2 then p3 when p4 then p5 end", []reply{n1, n2, zero, n2, zero}, null, api.Done, "p1 p2 p1 p4"},
		{"p1 and p2 and p3", []reply{yes, no, zero}, boolean(false), api.Done, "p1 p2"},
		{"p1 and p2 or p3", []reply{no, zero, yes}, boolean(true), api.Done, "p1 p3"},
		{"p1 and (p2 or p3)", []reply{yes, yes, zero}, boolean(true), api.Done, "p1 p2"},
		{"(p1 or p2) and p3", []reply{no, unknown, no}, boolean(false), api.Done, "p1 p2 p3"},
		{"not (p1 and p2)", []reply{no, zero}, boolean(true), api.Done, "p1"},
		{"(p1 + p2) * p3", []reply{n1, n2, n3}, num(9), api.Done, "p1 p2 p3"},
		{"p1 + p2 * p3", []reply{word, n2, zero}, null, api.Zero, "p1 p2 p3"},
		{"p1 + p2 + p3", []reply{word, n2, zero}, null, api.Mismatch, "p1 p2"},
		{"nullif(p1, p2) in (p3)", []reply{n1, word, zero}, null, api.Mismatch, "p1 p2"},
	} {
		known := map[string]reply{}
		for i, r := range x.replies {
			known["p"+string(rune('1'+i))] = r
		}
		asks(t, "P17.2", x.text, known, x.want, x.state, strings.Fields(x.asked)...)
	}
}

func TestWhatIsNotAskedMayBeAnything(t *testing.T) {
	yes, no, seven := leaf(boolean(true)), leaf(boolean(false)), leaf(num(7))
	ring := node("not", leaf(null))
	ring.L[0] = ring
	for _, junk := range []api.Node{node("zz"), node("="), node("when"), {}, node("and", yes), ring, leaf(text("a")), node("/", seven, leaf(num(0))), probe("nobody")} {
		for _, x := range []struct {
			n    api.Node
			want api.Value
		}{
			{node("and", no, junk), boolean(false)},
			{node("or", yes, junk), boolean(true)},
			{node("coalesce", seven, junk, junk), num(7)},
			{node("in", seven, seven, junk, junk), boolean(true)},
			{node("case", node("when", yes, seven), junk, junk), num(7)},
			{node("case", node("when", yes, seven), junk), num(7)},
			{node("case", node("when", no, junk), node("when", yes, seven), junk, junk), num(7)},
			{node("case", node("when", no, junk), seven), num(7)},
		} {
			is(t, "P17.2", x.n, nil, nil, x.want, api.Done)
		}
	}
}

func TestStatesOfRun(t *testing.T) {
	texts := []string{
		"p1", "p1 + 1", "1 + p1", "-p1", "p1 = 1", "1 = p1", "p1 and true", "true and p1", "p1 or false", "false or p1", "not p1", "p1 is null", "p1 is true",
		"p1 between 1 and 2", "1 between p1 and 2", "0 between 1 and p1", "p1 in (1)", "1 in (p1)", "1 in (2, p1)", "p1 like 'a'", "'a' like p1",
		"case when p1 then 1 end", "case when true then p1 end", "case when false then 1 else p1 end", "coalesce(p1, 1)", "coalesce(null, p1)", "nullif(p1, 1)", "nullif(1, p1)",
		"cast(p1 as integer)", "exists (select 1 from p1)", "1 in (select 1 from p1)", "p1 in (select 1 from nobody)", "1 = any (select 1 from p1)", "p1 = any (select 1 from nobody)",
		"1 = all (select 1 from p1)", "p1 = all (select 1 from nobody)", "p1 || 'a'", "'a' || p1",
	}
	for _, text := range texts {
		for _, state := range []api.State{api.NoData, api.Parked, api.Cardinal, api.Zero, api.Syntax, api.Mismatch, api.TooLarge, api.Victim, "", "zzzzz"} {
			// The rows beside a state are nothing.
			s := &script{replies: map[string]reply{"p1": {[]api.Row{{num(1)}}, state}}}
			is(t, "P17.1", tree(t, text), nil, s.run, null, state)
			if got, told := Truth(tree(t, text), nil, s.run); got != api.Unknown || told != state {
				t.Errorf("P17.1: %s: %d, %s, not %s", text, got, told, state)
			}
		}
	}
}
