package value

import (
	"math"
	"strings"
	"testing"

	"stile/api"
)

func num(n int64) api.Value { return api.Value{Kind: api.Num, N: n} }

func text(s string) api.Value { return api.Value{Kind: api.Text, S: s} }

func boolean(b bool) api.Value { return api.Value{Kind: api.Bool, B: b} }

var null api.Value

// wrong are values of kinds that are none: nothing may panic at them.
var wrong = []api.Value{{Kind: 4}, {Kind: -1}, {Kind: math.MaxInt}, {Kind: math.MinInt, N: 3, S: "a", B: true}}

// ladder holds groups of values: those of one group are alike, each group is below the next.
func ladder() [][]api.Value {
	return [][]api.Value{
		{null},
		{num(math.MinInt64)},
		{num(math.MinInt64 + 1)},
		{num(-1)},
		{num(0)},
		{num(9)},
		{num(10)},
		{num(math.MaxInt64 - 1)},
		{num(math.MaxInt64)},
		{text(""), text(" "), text(strings.Repeat(" ", 500))},
		{text("\x00")},
		{text("\t"), text("\t ")},
		{text(" a")},
		{text("10")},
		{text("9")},
		{text("A")},
		{text("a"), text("a "), text("a  ")},
		{text("a\x01")}, // a shorter text comes ahead, though a blank would be above the byte 1
		{text("a b"), text("a b ")},
		{text("aa")},
		{text("ab"), text("ab   ")},
		{text("b")},
		{text("\x7f")},
		{text("\x80")},
		{text("\xff")},
		{boolean(false)},
		{boolean(true)},
	}
}

func steps() []api.Value {
	var out []api.Value
	for _, group := range ladder() {
		out = append(out, group...)
	}
	return out
}

func TestRight(t *testing.T) {
	for _, v := range steps() {
		if !Right(v) {
			t.Errorf("P1.1: Right(%v) is false", v)
		}
	}
	for _, v := range []api.Value{
		{N: 1}, {S: "a"}, {S: " "}, {B: true},
		{Kind: api.Num, S: "a"}, {Kind: api.Num, N: 1, S: " "}, {Kind: api.Num, N: 1, B: true},
		{Kind: api.Text, N: 1}, {Kind: api.Text, S: "a", N: -1}, {Kind: api.Text, S: "a", B: true},
		{Kind: api.Bool, N: 1}, {Kind: api.Bool, B: true, N: 1}, {Kind: api.Bool, S: "a"}, {Kind: api.Bool, B: true, S: "true"},
		{Kind: 4}, {Kind: -1}, {Kind: 4, N: 1}, {Kind: math.MaxInt, S: "a"}, {Kind: math.MinInt, B: true},
	} {
		if Right(v) {
			t.Errorf("P1.1: Right(%v) is true", v)
		}
	}
}

func TestOrderOfLadder(t *testing.T) {
	groups := ladder()
	for i, low := range groups {
		for k, high := range groups {
			want := 0
			if i < k {
				want = -1
			} else if i > k {
				want = 1
			}
			for _, a := range low {
				for _, b := range high {
					if got := Order(a, b); got != want {
						t.Errorf("P1.1: Order(%v, %v): %d, not %d", a, b, got, want)
					}
				}
			}
		}
	}
}

func TestOrderIsTotal(t *testing.T) {
	all := append(steps(), wrong...)
	for _, a := range all {
		if Order(a, a) != 0 {
			t.Errorf("P1.2: Order(%v, itself): %d", a, Order(a, a))
		}
		for _, b := range all {
			ab := Order(a, b)
			if ab < -1 || ab > 1 || Order(b, a) != -ab {
				t.Errorf("P1.2: Order(%v, %v): %d, turned around %d", a, b, ab, Order(b, a))
			}
			for _, c := range all {
				if ab <= 0 && Order(b, c) <= 0 && Order(a, c) > 0 {
					t.Errorf("P1.2: %v, %v, %v: not transitive", a, b, c)
				}
				if ab == 0 && Order(a, c) != Order(b, c) {
					t.Errorf("P1.2: %v and %v are alike, but not against %v", a, b, c)
				}
			}
		}
	}
}

// signs tells of each sign of comparison at which orders -1, 0, 1 it holds.
func signs() map[string][3]bool {
	return map[string][3]bool{
		"=":  {false, true, false},
		"<>": {true, false, true},
		"<":  {true, false, false},
		"<=": {true, true, false},
		">":  {false, false, true},
		">=": {false, true, true},
	}
}

func checkTest(t *testing.T, op string, a, b api.Value, want api.Truth, state api.State) {
	t.Helper()
	if got, s := Test(op, a, b); got != want || s != state {
		t.Errorf("P1.1: Test(%q, %v, %v): %d, %s, not %d, %s", op, a, b, got, s, want, state)
	}
}

func TestComparisons(t *testing.T) {
	groups := ladder()
	for op, at := range signs() {
		for i, low := range groups {
			for k, high := range groups {
				a, b := low[0], high[len(high)-1]
				place := 1
				if i < k {
					place = 0
				} else if i > k {
					place = 2
				}
				switch {
				case a.Kind == api.Null || b.Kind == api.Null:
					checkTest(t, op, a, b, api.Unknown, api.Done)
				case a.Kind != b.Kind:
					checkTest(t, op, a, b, api.Unknown, api.Mismatch)
				case at[place]:
					checkTest(t, op, a, b, api.True, api.Done)
				default:
					checkTest(t, op, a, b, api.False, api.Done)
				}
			}
		}
	}
}

func TestUnknownSigns(t *testing.T) {
	pairs := [][2]api.Value{{num(1), num(1)}, {null, null}, {null, num(1)}, {num(1), text("1")}, {text("a"), text("b")}, {boolean(true), boolean(true)}}
	for _, op := range []string{"", " ", "==", "!=", "=<", "=>", "><", "< ", " =", "=\x00", "<=>", "like", "is"} {
		for _, p := range pairs {
			checkTest(t, op, p[0], p[1], api.Unknown, api.Syntax)
		}
	}
}

func TestOfAndBack(t *testing.T) {
	for _, x := range []struct {
		v     api.Value
		truth api.Truth
		state api.State
	}{
		{boolean(true), api.True, api.Done},
		{boolean(false), api.False, api.Done},
		{null, api.Unknown, api.Done},
		{num(0), api.Unknown, api.Mismatch},
		{num(1), api.Unknown, api.Mismatch},
		{text(""), api.Unknown, api.Mismatch},
		{text("true"), api.Unknown, api.Mismatch},
		{api.Value{Kind: 4}, api.Unknown, api.Mismatch},
		{api.Value{Kind: -1}, api.Unknown, api.Mismatch},
	} {
		if got, s := Of(x.v); got != x.truth || s != x.state {
			t.Errorf("P1.1: Of(%v): %d, %s", x.v, got, s)
		}
	}
	for truth, want := range map[api.Truth]api.Value{
		api.True: boolean(true), api.False: boolean(false), api.Unknown: null,
		3: null, -1: null, math.MaxInt: null, math.MinInt: null,
	} {
		if got := Back(truth); got != want {
			t.Errorf("P1.1: Back(%d): %v", truth, got)
		}
	}
}
