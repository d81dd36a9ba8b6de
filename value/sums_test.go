package value

import (
	"math"
	"math/big"
	"strings"
	"testing"

	"stile/api"
)

// edges holds numbers around those at which a sum, a product or a quotient leaves its range.
func edges() []int64 {
	var out []int64
	for _, middle := range []int64{0, 10, -10, 1 << 31, -1 << 31, 1 << 32, -1 << 32, 3037000499, -3037000499, 1 << 62, -1 << 62} {
		for d := int64(-3); d <= 3; d++ {
			out = append(out, middle+d)
		}
	}
	for d := int64(0); d <= 3; d++ {
		out = append(out, math.MaxInt64-d, math.MinInt64+d)
	}
	return append(out, math.MaxInt64/3, math.MinInt64/3, 7046029254386353131)
}

type pairOp struct {
	name  string
	does  func(a, b api.Value) (api.Value, api.State)
	exact func(z, x, y *big.Int) *big.Int
}

func pairOps() []pairOp {
	return []pairOp{
		{"Add", Add, (*big.Int).Add},
		{"Sub", Sub, (*big.Int).Sub},
		{"Mul", Mul, (*big.Int).Mul},
		{"Div", Div, (*big.Int).Quo},
	}
}

// wanted is what an operation without bounds comes to, brought into the bounds of 64 bits.
func wanted(op pairOp, x, y int64) (api.Value, api.State) {
	if op.name == "Div" && y == 0 {
		return null, api.Zero
	}
	z := op.exact(new(big.Int), big.NewInt(x), big.NewInt(y))
	if !z.IsInt64() {
		return null, api.OutOfRange
	}
	return num(z.Int64()), api.Done
}

func TestNumbers(t *testing.T) {
	for _, op := range pairOps() {
		for _, x := range edges() {
			for _, y := range edges() {
				want, state := wanted(op, x, y)
				if got, s := op.does(num(x), num(y)); got != want || s != state {
					t.Errorf("P1.1: %s(%d, %d): %v, %s, not %v, %s", op.name, x, y, got, s, want, state)
				}
			}
		}
	}
	for _, x := range edges() {
		want, state := num(-x), api.Done
		if x == math.MinInt64 {
			want, state = null, api.OutOfRange
		}
		if got, s := Neg(num(x)); got != want || s != state {
			t.Errorf("P1.1: Neg(%d): %v, %s", x, got, s)
		}
	}
}

func TestNumbersOfOtherKinds(t *testing.T) {
	others := []api.Value{text(""), text("1"), boolean(false), boolean(true), {Kind: 4}, {Kind: -1}}
	for _, op := range pairOps() {
		for _, p := range [][2]api.Value{{null, null}, {null, num(1)}, {num(1), null}, {null, num(0)}, {num(math.MinInt64), null}} {
			if got, s := op.does(p[0], p[1]); got != null || s != api.Done {
				t.Errorf("P1.1: %s(%v): %v, %s", op.name, p, got, s)
			}
		}
		for _, o := range others {
			for _, v := range []api.Value{null, num(0), num(1), num(math.MinInt64), o} {
				if got, s := op.does(o, v); got != null || s != api.Mismatch {
					t.Errorf("P1.1: %s(%v, %v): %v, %s", op.name, o, v, got, s)
				}
				if got, s := op.does(v, o); got != null || s != api.Mismatch {
					t.Errorf("P1.1: %s(%v, %v): %v, %s", op.name, v, o, got, s)
				}
			}
		}
	}
	if got, s := Neg(null); got != null || s != api.Done {
		t.Errorf("P1.1: Neg(null): %v, %s", got, s)
	}
	for _, o := range others {
		if got, s := Neg(o); got != null || s != api.Mismatch {
			t.Errorf("P1.1: Neg(%v): %v, %s", o, got, s)
		}
	}
}

func TestSubTakesAwayWhatAddAdds(t *testing.T) {
	for _, x := range edges() {
		for _, y := range edges() {
			if sum, s := Add(num(x), num(y)); s == api.Done {
				if back, s := Sub(sum, num(y)); back != num(x) || s != api.Done {
					t.Errorf("P1.4: %d + %d - %d: %v, %s", x, y, y, back, s)
				}
			}
			if rest, s := Sub(num(x), num(y)); s == api.Done {
				if back, s := Add(rest, num(y)); back != num(x) || s != api.Done {
					t.Errorf("P1.4: %d - %d + %d: %v, %s", x, y, y, back, s)
				}
			}
		}
	}
}

func TestQuotientAndRest(t *testing.T) {
	for _, x := range edges() {
		for _, y := range edges() {
			quotient, s := Div(num(x), num(y))
			if s != api.Done {
				continue
			}
			product, s := Mul(num(y), quotient)
			if s != api.Done {
				t.Errorf("P1.4: %d times %d / %d: %s", y, x, y, s)
				continue
			}
			rest, s := Sub(num(x), product)
			if s != api.Done {
				t.Errorf("P1.4: the rest of %d / %d: %s", x, y, s)
				continue
			}
			size, most := new(big.Int).Abs(big.NewInt(rest.N)), new(big.Int).Abs(big.NewInt(y))
			if size.Cmp(most) >= 0 || rest.N > 0 && x < 0 || rest.N < 0 && x > 0 {
				t.Errorf("P1.4: %d / %d: %d, rest %d", x, y, quotient.N, rest.N)
			}
		}
	}
}

func TestConcat(t *testing.T) {
	full := strings.Repeat("x", api.MaxString)
	for _, x := range []struct {
		a, b, want api.Value
		state      api.State
	}{
		{text("a"), text("b"), text("ab"), api.Done},
		{text("a "), text(" b "), text("a  b "), api.Done},
		{text(""), text(""), text(""), api.Done},
		{text(""), text("b"), text("b"), api.Done},
		{text("a"), text(""), text("a"), api.Done},
		{text("\x00"), text("\xff"), text("\x00\xff"), api.Done},
		{text(full), text(""), text(full), api.Done},
		{text(""), text(full), text(full), api.Done},
		{text(full[:200]), text(full[:200]), text(full), api.Done},
		{text(full[1:]), text("y"), text(full[1:] + "y"), api.Done},
		{text(full), text("y"), null, api.TooLong},
		{text("y"), text(full), null, api.TooLong},
		{text(full), text(" "), null, api.TooLong},
		{text(full), text(full), null, api.TooLong},
		{text(full + "y"), text(""), null, api.TooLong},
		{text(full + "y"), null, null, api.Done},
		{null, text("a"), null, api.Done},
		{text("a"), null, null, api.Done},
		{null, null, null, api.Done},
		{num(1), text("a"), null, api.Mismatch},
		{text("a"), num(1), null, api.Mismatch},
		{num(1), num(1), null, api.Mismatch},
		{null, num(1), null, api.Mismatch},
		{boolean(true), null, null, api.Mismatch},
		{text(full + "y"), boolean(true), null, api.Mismatch},
		{api.Value{Kind: 4}, text("a"), null, api.Mismatch},
		{null, api.Value{Kind: -1}, null, api.Mismatch},
	} {
		if got, s := Concat(x.a, x.b); got != x.want || s != x.state {
			t.Errorf("P1.1: Concat(%v, %v): %v, %s", x.a, x.b, got, s)
		}
	}
}
