package eval

import (
	"math"
	"strings"
	"testing"

	"stile/api"
	"stile/types"
	"stile/value"
)

func TestLeaves(t *testing.T) {
	for _, v := range samples() {
		is(t, "P17.1", leaf(v), nil, nil, v, api.Done)
	}
	for _, x := range []struct {
		n    api.Node
		want api.Value
	}{
		{api.Node{Op: "bool", N: -1}, boolean(true)},
		{api.Node{Op: "bool", N: 2}, boolean(true)},
		{api.Node{Op: "bool", N: math.MinInt64}, boolean(true)},
		{api.Node{Op: "bool", N: 1 << 32}, boolean(true)},
		{api.Node{Op: "bool", S: "true"}, boolean(false)},
		{api.Node{Op: "num", S: "x", N: 3}, num(3)},
		{api.Node{Op: "text", S: "x", N: 3}, text("x")},
		{api.Node{Op: "null", S: "x", N: 3}, null},
		{api.Node{Op: "num", L: []api.Node{}}, num(0)},
	} {
		is(t, "P17.1", x.n, nil, nil, x.want, api.Done)
	}
}

func TestSlots(t *testing.T) {
	long := make(api.Row, 1500)
	for i := range long {
		long[i] = num(int64(i))
	}
	rows := []api.Row{long, {text("b0"), boolean(true), null}, {}, {num(30)}, nil, {num(50), num(51)}}
	for _, x := range []struct {
		n    int64
		want api.Value
	}{
		{0, num(0)}, {1, num(1)}, {998, num(998)}, {999, num(999)},
		{1000, text("b0")}, {1001, boolean(true)}, {1002, null}, {1003, null}, {1999, null},
		{2000, null}, {2001, null}, {3000, num(30)}, {3001, null}, {4000, null}, {5000, num(50)}, {5001, num(51)}, {5002, null},
		{6000, null}, {6001, null}, {7000, null}, {math.MaxInt64, null}, {math.MaxInt64 - 807, null}, {1 << 32, null},
		{-1, null}, {-999, null}, {-1000, null}, {-1001, null}, {-3000, null}, {math.MinInt64, null}, {math.MinInt64 + 808, null},
	} {
		is(t, "P17.1", api.Node{Op: "slot", N: x.n}, rows, nil, x.want, api.Done)
		is(t, "P17.1", api.Node{Op: "slot", N: x.n}, nil, nil, null, api.Done)
		is(t, "P17.1", api.Node{Op: "slot", N: x.n}, []api.Row{nil, {}}, nil, null, api.Done)
	}
}

type binary struct {
	op   string
	does func(a, b api.Value) (api.Value, api.State)
}

func TestOperationsOfTwo(t *testing.T) {
	for _, x := range []binary{{"+", value.Add}, {"-", value.Sub}, {"*", value.Mul}, {"/", value.Div}, {"||", value.Concat}} {
		for _, a := range samples() {
			for _, b := range samples() {
				want, state := x.does(a, b)
				is(t, "P17.1", node(x.op, leaf(a), leaf(b)), nil, nil, want, state)
			}
		}
	}
	for _, a := range samples() {
		want, state := value.Neg(a)
		is(t, "P17.1", node("neg", leaf(a)), nil, nil, want, state)
	}
}

func TestOperationsWrittenOut(t *testing.T) {
	for _, x := range []struct {
		text  string
		want  api.Value
		state api.State
	}{
		{"7 + 2", num(9), api.Done},
		{"7 - 2", num(5), api.Done},
		{"2 - 7", num(-5), api.Done},
		{"7 * 2", num(14), api.Done},
		{"7 / 2", num(3), api.Done},
		{"-7 / 2", num(-3), api.Done},
		{"-(-7)", num(7), api.Done},
		{"10 - 3 - 2", num(5), api.Done},
		{"10 - (3 - 2)", num(9), api.Done},
		{"1 + 2 * 3", num(7), api.Done},
		{"1 / 0", null, api.Zero},
		{"null / 0", null, api.Done},
		{"1 + null", null, api.Done},
		{"'a' + null", null, api.Mismatch},
		{"9223372036854775807 + 1", null, api.OutOfRange},
		{"-9223372036854775807 - 2", null, api.OutOfRange},
		{"-(-9223372036854775807 - 1)", null, api.OutOfRange},
		{"'a' || 'b'", text("ab"), api.Done},
		{"'a ' || 'b'", text("a b"), api.Done},
		{"'a' || 1", null, api.Mismatch},
		{"'a' || null", null, api.Done},
		{"cast(' -07 ' as smallint)", num(-7), api.Done},
		{"cast(40000 as smallint)", null, api.OutOfRange},
		{"cast('abcd' as varchar(3))", text("abc"), api.Done},
		{"cast(5 as char(3))", text("5  "), api.Done},
		{"cast(5 as char)", text("5"), api.Done},
		{"cast(12 as char)", null, api.TooLong},
		{"cast('yes' as boolean)", null, api.BadCast},
		{"cast(true as varchar(4))", text("TRUE"), api.Done},
		{"cast(null as boolean)", null, api.Done},
		{"cast('a' as char(101))", null, api.Mismatch},
		{"cast(null as varchar(0))", null, api.Mismatch},
		{"cast(1 as boolean)", null, api.Mismatch},
		{"cast(1 / 0 as char(101))", null, api.Zero},
		{"nullif(2, 2)", null, api.Done},
		{"nullif(2, 3)", num(2), api.Done},
		{"nullif(2, null)", num(2), api.Done},
		{"nullif(null, 2)", null, api.Done},
		{"nullif(null, null)", null, api.Done},
		{"nullif('a ', 'a')", null, api.Done},
		{"nullif('a ', 'b')", text("a "), api.Done},
		{"nullif(false, false)", null, api.Done},
		{"nullif(1, 'a')", null, api.Mismatch},
		{"coalesce(null, 2, 3)", num(2), api.Done},
		{"coalesce(1)", num(1), api.Done},
		{"coalesce(null)", null, api.Done},
		{"coalesce(null, null, null)", null, api.Done},
		{"coalesce(null, null, false)", boolean(false), api.Done},
		{"coalesce(0, 1)", num(0), api.Done},
		{"coalesce('', 'a')", text(""), api.Done},
		{"coalesce(null, 'a', 1)", text("a"), api.Done},
	} {
		is(t, "P17.1", tree(t, x.text), nil, nil, x.want, x.state)
	}
}

func TestCaseWrittenOut(t *testing.T) {
	for _, x := range []struct {
		text  string
		want  api.Value
		state api.State
	}{
		{"case when true then 1 else 2 end", num(1), api.Done},
		{"case when false then 1 else 2 end", num(2), api.Done},
		{"case when null then 1 else 2 end", num(2), api.Done},
		{"case when false then 1 end", null, api.Done},
		{"case when true then null else 2 end", null, api.Done},
		{"case when false then 1 when true then 2 when true then 3 else 4 end", num(2), api.Done},
		{"case when null then 1 when false then 2 when true then 3 end", num(3), api.Done},
		{"case 2 when 1 then 'a' when 2 then 'b' else 'c' end", text("b"), api.Done},
		{"case null when null then 'a' else 'c' end", text("c"), api.Done},
		{"case 'a' when 'a  ' then 1 end", num(1), api.Done},
		{"case when 1 then 1 else 2 end", null, api.Mismatch},
		{"case when 'a' then 1 else 2 end", null, api.Mismatch},
		{"case 1 when 'a' then 1 else 2 end", null, api.Mismatch},
		{"case when false then 1 else 1 / 0 end", null, api.Zero},
		{"case when true then 1 / 0 else 1 end", null, api.Zero},
		{"case when 1 / 0 = 1 then 1 else 1 end", null, api.Zero},
	} {
		is(t, "P17.1", tree(t, x.text), nil, nil, x.want, x.state)
	}
}

func TestCasts(t *testing.T) {
	for _, x := range []struct {
		n  api.Node
		of api.Type
	}{
		{named("type", "smallint"), api.Type{Base: api.Small}},
		{named("type", "integer"), api.Type{Base: api.Integer}},
		{named("type", "bigint"), api.Type{Base: api.Big}},
		{named("type", "boolean"), api.Type{Base: api.Boolean}},
		{api.Node{Op: "type", S: "char", N: 3}, api.Type{Base: api.Char, Len: 3}},
		{api.Node{Op: "type", S: "varchar", N: 3}, api.Type{Base: api.Varchar, Len: 3}},
		{api.Node{Op: "type", S: "varchar", N: 100}, api.Type{Base: api.Varchar, Len: 100}},
		{api.Node{Op: "type", S: "varchar", N: 101}, api.Type{Base: api.Varchar, Len: 101}},
		{api.Node{Op: "type", S: "char", N: math.MaxInt64}, api.Type{Base: api.Char, Len: 101}},
		{api.Node{Op: "type", S: "char", N: math.MinInt64}, api.Type{Base: api.Char, Len: -1}},
		{api.Node{Op: "type", S: "char"}, api.Type{Base: api.Char}},
		{api.Node{Op: "type", S: "integer", N: 1}, api.Type{Base: api.Integer, Len: 1}},
		{named("type", "real"), api.Type{}},
		{named("type", ""), api.Type{}},
	} {
		for _, v := range samples() {
			want, state := types.Cast(v, x.of)
			is(t, "P17.1", node("cast", x.n, leaf(v)), nil, nil, want, state)
		}
	}
}

func TestNullifAndCoalesceOfAll(t *testing.T) {
	for _, a := range samples() {
		is(t, "P17.1", node("coalesce", leaf(a)), nil, nil, a, api.Done)
		for _, b := range samples() {
			want := a
			if a == null {
				want = b
			}
			is(t, "P17.1", node("coalesce", leaf(a), leaf(b)), nil, nil, want, api.Done)
			want, state := a, api.Done
			switch equal, wrong := value.Test("=", a, b); {
			case wrong != api.Done:
				want, state = null, wrong
			case equal == api.True:
				want = null
			}
			is(t, "P17.1", node("nullif", leaf(a), leaf(b)), nil, nil, want, state)
		}
	}
}

func TestLongTexts(t *testing.T) {
	half := strings.Repeat("x", api.MaxString/2)
	is(t, "P17.1", node("||", leaf(text(half)), leaf(text(half))), nil, nil, text(half+half), api.Done)
	is(t, "P17.1", node("||", node("||", leaf(text(half)), leaf(text(half))), leaf(text("y"))), nil, nil, null, api.TooLong)
}
