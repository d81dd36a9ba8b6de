package types

import (
	"math"
	"slices"
	"strconv"
	"strings"
	"testing"

	"stile/api"
	"stile/value"
)

var (
	null     = api.Value{}
	small    = api.Type{Base: api.Small}
	integer  = api.Type{Base: api.Integer}
	big      = api.Type{Base: api.Big}
	truthful = api.Type{Base: api.Boolean}
)

func num(n int64) api.Value    { return api.Value{Kind: api.Num, N: n} }
func text(s string) api.Value  { return api.Value{Kind: api.Text, S: s} }
func boolean(b bool) api.Value { return api.Value{Kind: api.Bool, B: b} }
func char(n int) api.Type      { return api.Type{Base: api.Char, Len: n} }
func varchar(n int) api.Type   { return api.Type{Base: api.Varchar, Len: n} }
func blanks(n int) string      { return strings.Repeat(" ", n) }
func digits(n int) string      { return strings.Repeat("9", n) }
func noughts(n int) string     { return strings.Repeat("0", n) }
func letters(n int) string     { return strings.Repeat("x", n) }
func decimal(n int64) string   { return strconv.FormatInt(n, 10) }
func isText(t api.Type) bool   { return t.Base == api.Char || t.Base == api.Varchar }
func otherKinds() []api.Value  { return []api.Value{{Kind: 4}, {Kind: -1}, {Kind: math.MaxInt}} }

// rightTypes holds types that are right, all of them but for most lengths of texts.
func rightTypes() []api.Type {
	out := []api.Type{small, integer, big, truthful}
	for _, n := range []int{1, 2, 3, 4, 5, 6, 19, 20, 21, 99, api.MaxChar} {
		out = append(out, char(n), varchar(n))
	}
	return out
}

func wrongTypes() []api.Type {
	out := []api.Type{{}, {Len: 1}, {Base: 7}, {Base: 7, Len: 1}, {Base: -1}, {Base: -1, Len: 3}, {Base: math.MaxInt}, {Base: math.MinInt, Len: 3}}
	for _, n := range []int{1, -1, 3, 100, math.MaxInt, math.MinInt} {
		for _, t := range []api.Type{small, integer, big, truthful} {
			out = append(out, api.Type{Base: t.Base, Len: n})
		}
	}
	for _, n := range []int{0, -1, 101, math.MaxInt, math.MinInt} {
		out = append(out, char(n), varchar(n))
	}
	return out
}

// rightValues holds values of all kinds, those around the types' bounds among them.
func rightValues() []api.Value {
	out := []api.Value{null, boolean(false), boolean(true)}
	for _, bits := range []int{0, 3, 7, 15, 16, 31, 32, 62} {
		for d := int64(-2); d <= 2; d++ {
			out = append(out, num(1<<bits+d), num(-1<<bits+d))
		}
	}
	for d := int64(0); d <= 2; d++ {
		out = append(out, num(math.MaxInt64-d), num(math.MinInt64+d))
	}
	for _, s := range []string{"", "a", "\x00", "\xff", "\t", "\u00a0", "TRUE", "false", "-7", "a b", "ab\t"} {
		for _, n := range []int{0, 1, 2, 3, 95, 98, 99, 100, 101} {
			out = append(out, text(s+blanks(n)), text(blanks(n)+s), text(letters(n)+s), text(s+blanks(n)+"x"), text(letters(n)+blanks(3)))
		}
	}
	return out
}

func TestRight(t *testing.T) {
	for _, x := range rightTypes() {
		if !Right(x) {
			t.Errorf("P2.1: Right(%v) is false", x)
		}
	}
	for _, x := range wrongTypes() {
		if Right(x) {
			t.Errorf("P2.1: Right(%v) is true", x)
		}
	}
}

func TestNameAndKind(t *testing.T) {
	for _, x := range []struct {
		of   api.Type
		name string
		kind api.Kind
	}{
		{small, "smallint", api.Num},
		{integer, "integer", api.Num},
		{big, "bigint", api.Num},
		{char(1), "char(1)", api.Text},
		{char(42), "char(42)", api.Text},
		{char(api.MaxChar), "char(100)", api.Text},
		{varchar(1), "varchar(1)", api.Text},
		{varchar(10), "varchar(10)", api.Text},
		{varchar(api.MaxChar), "varchar(100)", api.Text},
		{truthful, "boolean", api.Bool},
	} {
		if name, kind := Name(x.of), KindOf(x.of); name != x.name || kind != x.kind {
			t.Errorf("P2.1: %v: %q of kind %d", x.of, name, kind)
		}
	}
	for _, x := range wrongTypes() {
		if name, kind := Name(x), KindOf(x); name != "" || kind != api.Null {
			t.Errorf("P2.1: %v, which is not right: %q of kind %d", x, name, kind)
		}
	}
}

func TestWrongTypesTakeNothing(t *testing.T) {
	for _, x := range wrongTypes() {
		for _, v := range slices.Concat([]api.Value{null, num(0), text(""), text("a"), boolean(true)}, otherKinds()) {
			if got, s := Assign(v, x); got != null || s != api.Mismatch {
				t.Errorf("P2.1: Assign(%v, %v): %v, %s", v, x, got, s)
			}
			if got, s := Cast(v, x); got != null || s != api.Mismatch {
				t.Errorf("P2.1: Cast(%v, %v): %v, %s", v, x, got, s)
			}
		}
	}
}

func TestNullOfAllTypes(t *testing.T) {
	for _, x := range rightTypes() {
		if got, s := Assign(null, x); got != null || s != api.Done {
			t.Errorf("P2.1: Assign(null, %v): %v, %s", x, got, s)
		}
		if got, s := Cast(null, x); got != null || s != api.Done {
			t.Errorf("P2.1: Cast(null, %v): %v, %s", x, got, s)
		}
	}
}

func TestKindsThatAreNotTheTypes(t *testing.T) {
	for _, x := range rightTypes() {
		for _, v := range slices.Concat([]api.Value{num(0), num(1), text(""), text("1"), text("true"), boolean(false), boolean(true)}, otherKinds()) {
			if v.Kind == KindOf(x) {
				continue
			}
			if got, s := Assign(v, x); got != null || s != api.Mismatch {
				t.Errorf("P2.1: Assign(%v, %v): %v, %s", v, x, got, s)
			}
		}
		for _, v := range otherKinds() {
			if got, s := Cast(v, x); got != null || s != api.Mismatch {
				t.Errorf("P2.1: Cast(%v, %v): %v, %s", v, x, got, s)
			}
		}
	}
}

func TestAssignIsFixed(t *testing.T) {
	told := 0
	for _, x := range rightTypes() {
		for _, v := range rightValues() {
			got, s := Assign(v, x)
			if s != api.Done {
				if got != null {
					t.Errorf("P2.1: Assign(%v, %v): %v beside %s", v, x, got, s)
				}
				continue
			}
			told++
			if !value.Right(got) {
				t.Errorf("P2.2: Assign(%v, %v): %v is not right", v, x, got)
			}
			if value.Order(got, v) != 0 {
				t.Errorf("P2.2: Assign(%v, %v): %v does not compare equal", v, x, got)
			}
			if again, s := Assign(got, x); again != got || s != api.Done {
				t.Errorf("P2.2: Assign(%v, %v), again: %v, %s", got, x, again, s)
			}
		}
	}
	if told < 1000 {
		t.Errorf("P2.2: only %d values were assigned", told)
	}
}

// What Cast tells is of the type, too.
func TestAssignLeavesWhatWasCast(t *testing.T) {
	for _, x := range rightTypes() {
		for _, v := range rightValues() {
			got, s := Cast(v, x)
			if s != api.Done {
				if got != null {
					t.Errorf("P2.1: Cast(%v, %v): %v beside %s", v, x, got, s)
				}
				continue
			}
			if again, s := Assign(got, x); again != got || s != api.Done || !value.Right(got) {
				t.Errorf("P2.2: Cast(%v, %v): %v, which is assigned as %v, %s", v, x, got, again, s)
			}
		}
	}
}

func TestThereAndBack(t *testing.T) {
	for _, v := range rightValues() {
		if v.Kind != api.Num {
			continue
		}
		for _, x := range rightTypes() {
			if !isText(x) {
				continue
			}
			there, s := Cast(v, x)
			if len(decimal(v.N)) > x.Len {
				if there != null || s != api.TooLong {
					t.Errorf("P2.1: Cast(%d, %v), which has no room: %v, %s", v.N, x, there, s)
				}
				continue
			}
			if back, s2 := Cast(there, big); s != api.Done || s2 != api.Done || back != v {
				t.Errorf("P2.3: %d to %v: %v, %s; back: %v, %s", v.N, x, there, s, back, s2)
			}
			for _, y := range []api.Type{small, integer, big} {
				want, state := Assign(v, y)
				if back, s := Cast(there, y); back != want || s != state {
					t.Errorf("P2.3: %q back to %v: %v, %s", there.S, y, back, s)
				}
			}
		}
	}
}
