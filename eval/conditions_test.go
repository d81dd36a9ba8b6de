package eval

import (
	"testing"

	"stile/api"
	"stile/value"
)

func signs() []string { return []string{"=", "<>", "<", "<=", ">", ">="} }

func TestSigns(t *testing.T) {
	for _, sign := range signs() {
		for _, a := range samples() {
			for _, b := range samples() {
				truth, state := value.Test(sign, a, b)
				is(t, "P17.1", node(sign, leaf(a), leaf(b)), nil, nil, value.Back(truth), state)
			}
		}
	}
	for sign, want := range map[string][3]bool{"=": {false, true, false}, "<>": {true, false, true}, "<": {true, false, false}, "<=": {true, true, false}, ">": {false, false, true}, ">=": {false, true, true}} {
		for i, b := range []int64{2, 1, 0} {
			is(t, "P17.1", node(sign, leaf(num(1)), leaf(num(b))), nil, nil, boolean(want[i]), api.Done)
		}
	}
}

func TestAndOrNot(t *testing.T) {
	for i, a := range truths() {
		is(t, "P17.1", node("not", leaf(a)), nil, nil, truths()[2-i], api.Done)
		for j, b := range truths() {
			is(t, "P17.1", node("and", leaf(a), leaf(b)), nil, nil, truths()[min(i, j)], api.Done)
			is(t, "P17.1", node("or", leaf(a), leaf(b)), nil, nil, truths()[max(i, j)], api.Done)
		}
	}
	yes, no, zero, number, word := leaf(boolean(true)), leaf(boolean(false)), tree(t, "1 / 0 = 1"), leaf(num(1)), leaf(text("true"))
	for _, x := range []struct {
		n     api.Node
		want  api.Value
		state api.State
	}{
		{node("and", no, zero), boolean(false), api.Done},
		{node("and", no, number), boolean(false), api.Done},
		{node("and", yes, zero), null, api.Zero},
		{node("and", leaf(null), zero), null, api.Zero},
		{node("and", yes, number), null, api.Mismatch},
		{node("and", leaf(null), word), null, api.Mismatch},
		{node("and", number, no), null, api.Mismatch},
		{node("and", number, zero), null, api.Mismatch},
		{node("and", zero, number), null, api.Zero},
		{node("and", zero, no), null, api.Zero},
		{node("or", yes, zero), boolean(true), api.Done},
		{node("or", yes, word), boolean(true), api.Done},
		{node("or", no, zero), null, api.Zero},
		{node("or", leaf(null), zero), null, api.Zero},
		{node("or", no, word), null, api.Mismatch},
		{node("or", leaf(null), number), null, api.Mismatch},
		{node("or", number, yes), null, api.Mismatch},
		{node("or", word, zero), null, api.Mismatch},
		{node("or", zero, yes), null, api.Zero},
		{node("not", number), null, api.Mismatch},
		{node("not", word), null, api.Mismatch},
		{node("not", zero), null, api.Zero},
	} {
		is(t, "P17.1", x.n, nil, nil, x.want, x.state)
	}
}

func TestIs(t *testing.T) {
	for _, v := range samples() {
		is(t, "P17.1", named("is", "null", leaf(v)), nil, nil, boolean(v == null), api.Done)
		for s, truth := range map[string]api.Value{"true": boolean(true), "false": boolean(false), "unknown": null} {
			want, state := boolean(v == truth), api.Done
			if v.Kind == api.Num || v.Kind == api.Text {
				want, state = null, api.Mismatch
			}
			is(t, "P17.1", named("is", s, leaf(v)), nil, nil, want, state)
		}
	}
	for _, s := range []string{"null", "true", "false", "unknown"} {
		is(t, "P17.1", named("is", s, tree(t, "1 / 0")), nil, nil, null, api.Zero)
	}
	for _, s := range []string{"", "NULL", "True", "not null", "nul", "query"} {
		is(t, "P17.1", named("is", s, leaf(null)), nil, nil, null, api.Syntax)
		is(t, "P17.1", named("is", s, leaf(boolean(true))), nil, nil, null, api.Syntax)
	}
}

func TestBetween(t *testing.T) {
	for _, a := range samples() {
		for _, b := range samples() {
			for _, c := range samples() {
				low, state := value.Test(">=", a, b)
				high, second := value.Test("<=", a, c)
				if state == api.Done {
					state = second
				}
				want := value.Back(value.And(low, high))
				if state != api.Done {
					want = null
				}
				is(t, "P17.1", node("between", leaf(a), leaf(b), leaf(c)), nil, nil, want, state)
			}
		}
	}
	for _, x := range []struct {
		text  string
		want  api.Value
		state api.State
	}{
		{"2 between 1 and 3", boolean(true), api.Done},
		{"1 between 1 and 1", boolean(true), api.Done},
		{"2 between 3 and 1", boolean(false), api.Done},
		{"0 between 1 and 3", boolean(false), api.Done},
		{"4 between 1 and 3", boolean(false), api.Done},
		{"2 between 1 and null", null, api.Done},
		{"0 between 1 and null", boolean(false), api.Done},
		{"4 between null and 3", boolean(false), api.Done},
		{"2 between null and 3", null, api.Done},
		{"null between 1 and 3", null, api.Done},
		{"0 between 1 and 'a'", null, api.Mismatch},
		{"0 between 1 and 1 / 0", null, api.Zero},
		{"0 between 'a' and 1 / 0", null, api.Zero},
		{"null between 'a' and 1", null, api.Done},
		{"not 2 between 1 and 3", boolean(false), api.Done},
		{"2 not between 1 and 3", boolean(false), api.Done},
	} {
		is(t, "P17.1", tree(t, x.text), nil, nil, x.want, x.state)
	}
}

func TestLists(t *testing.T) {
	for _, x := range []struct {
		text  string
		want  api.Value
		state api.State
	}{
		{"1 in (1)", boolean(true), api.Done},
		{"1 in (2)", boolean(false), api.Done},
		{"3 in (1, 3, 1 / 0)", boolean(true), api.Done},
		{"3 in (1, 1 / 0, 3)", null, api.Zero},
		{"3 in (1, null, 3)", boolean(true), api.Done},
		{"3 in (1, null, 2)", null, api.Done},
		{"3 in (null, 1)", null, api.Done},
		{"null in (1, null)", null, api.Done},
		{"null in (1)", null, api.Done},
		{"null in (1, 'a')", null, api.Done},
		{"null in (1, 1 / 0)", null, api.Zero},
		{"3 in (3, 'a')", boolean(true), api.Done},
		{"3 in ('a', 3)", null, api.Mismatch},
		{"3 in ('a', 1 / 0)", null, api.Mismatch},
		{"3 in (1 / 0, 'a')", null, api.Zero},
		{"3 in (null, 'a')", null, api.Mismatch},
		{"1 / 0 in (1)", null, api.Zero},
		{"'a' in ('b', 'a  ')", boolean(true), api.Done},
		{"true in (false, true)", boolean(true), api.Done},
		{"3 not in (1, 3)", boolean(false), api.Done},
		{"3 not in (1, 2)", boolean(true), api.Done},
		{"3 not in (1, null)", null, api.Done},
	} {
		is(t, "P17.1", tree(t, x.text), nil, nil, x.want, x.state)
	}
	is(t, "P17.1", named("in", "list", leaf(num(3)), leaf(num(1)), leaf(num(3))), nil, nil, boolean(true), api.Done)
}

func TestLike(t *testing.T) {
	for _, a := range samples() {
		for _, b := range samples() {
			want, state := null, api.Done
			switch {
			case a == null || b == null:
			case a.Kind != api.Text || b.Kind != api.Text:
				state = api.Mismatch
			default:
				want = boolean(value.Like(a.S, b.S))
			}
			is(t, "P17.1", node("like", leaf(a), leaf(b)), nil, nil, want, state)
		}
	}
	for _, x := range []struct {
		text  string
		want  api.Value
		state api.State
	}{
		{"'abc' like 'a%c_'", boolean(false), api.Done},
		{"'abc' like 'a%'", boolean(true), api.Done},
		{"'a%' like 'abc'", boolean(false), api.Done},
		{"'' like '%'", boolean(true), api.Done},
		{"'a ' like 'a'", boolean(false), api.Done},
		{"null like 1", null, api.Done},
		{"1 like null", null, api.Done},
		{"null like 1 / 0", null, api.Zero},
		{"1 like 1 / 0", null, api.Zero},
		{"'1' like 1", null, api.Mismatch},
		{"true like 'a'", null, api.Mismatch},
		{"'abc' not like 'a%'", boolean(false), api.Done},
	} {
		is(t, "P17.1", tree(t, x.text), nil, nil, x.want, x.state)
	}
}

func TestTruth(t *testing.T) {
	for _, v := range samples() {
		want, state := value.Of(v)
		if got, s := Truth(leaf(v), nil, nil); got != want || s != state {
			t.Errorf("P17.1: %v: %d, %s", v, got, s)
		}
	}
	for _, x := range []struct {
		text  string
		want  api.Truth
		state api.State
	}{
		{"s0 = 1", api.True, api.Done},
		{"s0 <> 1", api.False, api.Done},
		{"s0 = s1", api.Unknown, api.Done},
		{"s1001", api.True, api.Done},
		{"s1002", api.False, api.Done},
		{"s3", api.Unknown, api.Done},
		{"p1", api.False, api.Done},
		{"p2 = 1", api.Unknown, api.Victim},
		{"1 / 0 = 1", api.Unknown, api.Zero},
		{"s0", api.Unknown, api.Mismatch},
		{"'true'", api.Unknown, api.Mismatch},
		{"not 1", api.Unknown, api.Mismatch},
	} {
		s := &script{replies: map[string]reply{"p1": one(boolean(false)), "p2": wrong(api.Victim)}}
		rows := []api.Row{{num(1), null}, {null, boolean(true), boolean(false)}}
		if got, state := Truth(tree(t, x.text), rows, s.run); got != x.want || state != x.state {
			t.Errorf("P17.1: %s: %d, %s", x.text, got, state)
		}
	}
	if got, state := Truth(node("zz"), nil, nil); got != api.Unknown || state != api.Syntax {
		t.Errorf("P17.1: %d, %s", got, state)
	}
}
