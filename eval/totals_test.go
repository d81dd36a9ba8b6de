package eval

import (
	"math"
	"math/rand"
	"slices"
	"strings"
	"testing"
	"time"

	"stile/api"
	"stile/value"
)

func totals() []string { return []string{"count*", "count", "sum", "min", "max"} }

func totalIs(t *testing.T, n api.Node, l []api.Value, want api.Value, state api.State) {
	t.Helper()
	if got, s := Total(n, l); got != want || s != state {
		t.Errorf("P17.1: %s of %v: %v, %s, not %v, %s", show(n), l, got, s, want, state)
	}
}

func TestTotalsWrittenOut(t *testing.T) {
	most, least := num(math.MaxInt64), num(math.MinInt64)
	word, blank := text("a"), text("a ")
	for _, x := range []struct {
		op    string
		n     int64
		l     []api.Value
		want  api.Value
		state api.State
	}{
		{"sum", 0, []api.Value{num(1), null, num(2)}, num(3), api.Done},
		{"sum", 0, []api.Value{num(2), null, num(1), num(2)}, num(5), api.Done},
		{"sum", 1, []api.Value{num(2), null, num(1), num(2)}, num(3), api.Done},
		{"sum", 0, []api.Value{num(-2), num(2)}, num(0), api.Done},
		{"sum", 0, []api.Value{null, null}, null, api.Done},
		{"sum", 1, []api.Value{null, null}, null, api.Done},
		{"sum", 0, []api.Value{word}, null, api.Mismatch},
		{"sum", 1, []api.Value{word}, null, api.Mismatch},
		{"sum", 0, []api.Value{boolean(true)}, null, api.Mismatch},
		{"sum", 0, []api.Value{null, word}, null, api.Mismatch},
		{"sum", 0, []api.Value{num(1), word, num(2)}, null, api.Mismatch},
		{"sum", 0, []api.Value{most, num(1), word}, null, api.OutOfRange},
		{"sum", 0, []api.Value{most, word, num(1)}, null, api.Mismatch},
		{"sum", 0, []api.Value{most, num(1), num(-1)}, null, api.OutOfRange},
		{"sum", 0, []api.Value{most, num(-1), num(1)}, most, api.Done},
		{"sum", 0, []api.Value{least, num(-1)}, null, api.OutOfRange},
		{"sum", 0, []api.Value{least, most, null}, num(-1), api.Done},
		{"sum", 0, []api.Value{num(1), most, least}, null, api.OutOfRange},
		{"sum", 0, []api.Value{most, most}, null, api.OutOfRange},
		{"sum", 1, []api.Value{most, most}, most, api.Done},
		{"sum", 1, []api.Value{most, num(-1), most, num(-1), num(1)}, most, api.Done},
		{"sum", 1, []api.Value{num(1), null, num(1), word, num(1)}, null, api.Mismatch},
		{"sum", 2, []api.Value{num(2), num(2)}, num(4), api.Done},
		{"sum", -1, []api.Value{num(2), num(2)}, num(4), api.Done},
		{"count", 0, []api.Value{num(2), null, num(1), num(2)}, num(3), api.Done},
		{"count", 1, []api.Value{num(2), null, num(1), num(2)}, num(2), api.Done},
		{"count", 0, []api.Value{null, null}, num(0), api.Done},
		{"count", 1, []api.Value{null, null}, num(0), api.Done},
		{"count", 0, []api.Value{word, blank, boolean(false), num(0), null}, num(4), api.Done},
		{"count", 1, []api.Value{word, blank, boolean(false), num(0), null}, num(3), api.Done},
		{"count", 1, []api.Value{text(""), text(" "), text("  "), boolean(true), boolean(false), boolean(true), num(1), num(0)}, num(5), api.Done},
		{"count", 1, []api.Value{text("1"), num(1)}, num(2), api.Done},
		{"count*", 0, []api.Value{num(2), null, num(1), num(2)}, num(4), api.Done},
		{"count*", 0, []api.Value{null, null, null}, num(3), api.Done},
		{"count*", 1, []api.Value{num(2), null, num(1), num(2), null}, num(3), api.Done},
		{"min", 0, []api.Value{num(2), null, num(1), num(2)}, num(1), api.Done},
		{"max", 0, []api.Value{num(2), null, num(1), num(3)}, num(3), api.Done},
		{"min", 0, []api.Value{num(-2), least, num(5)}, least, api.Done},
		{"max", 0, []api.Value{num(-2), num(-5), null}, num(-2), api.Done},
		{"min", 0, []api.Value{null, null}, null, api.Done},
		{"max", 0, []api.Value{null}, null, api.Done},
		{"min", 0, []api.Value{text("b"), blank, word}, blank, api.Done},
		{"min", 0, []api.Value{text("b"), word, blank}, word, api.Done},
		{"max", 0, []api.Value{word, text("b "), text("b"), text("b  ")}, text("b "), api.Done},
		{"max", 1, []api.Value{word, text("b"), text("b ")}, text("b"), api.Done},
		{"min", 1, []api.Value{text("b"), blank, word}, blank, api.Done},
		{"min", 0, []api.Value{boolean(true), boolean(false)}, boolean(false), api.Done},
		{"max", 0, []api.Value{boolean(false), boolean(true)}, boolean(true), api.Done},
		{"min", 0, []api.Value{boolean(true), text(""), num(9)}, num(9), api.Done},
		{"max", 0, []api.Value{num(9), boolean(false), text("zz")}, boolean(false), api.Done},
		{"min", 0, []api.Value{null, boolean(true), null}, boolean(true), api.Done},
	} {
		totalIs(t, api.Node{Op: x.op, N: x.n}, x.l, x.want, x.state)
		// What a total is of is not asked again.
		totalIs(t, api.Node{Op: x.op, S: "x", N: x.n, L: []api.Node{{Op: "slot"}}}, x.l, x.want, x.state)
		totalIs(t, api.Node{Op: x.op, N: x.n, L: []api.Node{{Op: "zz"}, {Op: "="}}}, x.l, x.want, x.state)
	}
}

func TestTotalsOfNothing(t *testing.T) {
	for _, op := range totals() {
		want := null
		if strings.HasPrefix(op, "count") {
			want = num(0)
		}
		for _, n := range []int64{0, 1} {
			totalIs(t, api.Node{Op: op, N: n}, nil, want, api.Done)
			totalIs(t, api.Node{Op: op, N: n}, []api.Value{}, want, api.Done)
		}
	}
}

func TestOtherTotals(t *testing.T) {
	for _, op := range []string{"", "avg", "SUM", "Count", "count *", "slot", "num", "+", "max*", "select"} {
		for _, l := range [][]api.Value{nil, {num(1)}, {text("a"), num(1)}, {null}} {
			for _, n := range []int64{0, 1} {
				totalIs(t, api.Node{Op: op, N: n}, l, null, api.Syntax)
				totalIs(t, api.Node{Op: op, N: n, L: []api.Node{{Op: "slot"}}}, l, null, api.Syntax)
			}
		}
	}
}

// modelTotal is E3 written out once more.
func modelTotal(op string, distinct bool, all []api.Value) (api.Value, api.State) {
	var l []api.Value
	for _, v := range all {
		if !distinct || !slices.ContainsFunc(l, func(x api.Value) bool { return value.Order(x, v) == 0 }) {
			l = append(l, v)
		}
	}
	rest := slices.DeleteFunc(slices.Clone(l), func(v api.Value) bool { return v.Kind == api.Null })
	switch {
	case op == "count*":
		return num(int64(len(l))), api.Done
	case op == "count":
		return num(int64(len(rest))), api.Done
	case len(rest) == 0:
		return null, api.Done
	case op == "min":
		return slices.MinFunc(rest, value.Order), api.Done
	case op == "max":
		return slices.MaxFunc(rest, value.Order), api.Done
	}
	so := num(0)
	for _, v := range rest {
		next, state := value.Add(so, v)
		if state != api.Done {
			return null, state
		}
		so = next
	}
	return so, api.Done
}

func TestTotalsAgainstModel(t *testing.T) {
	r := rand.New(rand.NewSource(17))
	pools := [][]api.Value{
		samples(),
		{null, num(0), num(1), num(2), num(3), num(-1)},
		{num(math.MaxInt64), num(math.MinInt64), num(1), num(-1), null},
		{text("a"), text("a "), text("b"), text("B"), text(""), text("  "), null},
		{null, boolean(true), boolean(false)},
	}
	for range 20000 {
		pool := pools[r.Intn(len(pools))]
		var l []api.Value
		for range r.Intn(9) {
			l = append(l, pool[r.Intn(len(pool))])
		}
		for _, op := range totals() {
			for n := range int64(2) {
				want, state := modelTotal(op, n == 1, l)
				totalIs(t, api.Node{Op: op, N: n}, l, want, state)
			}
		}
	}
}

func TestTotalsOfManyValues(t *testing.T) {
	const many = 200000
	var l []api.Value
	for i := range many {
		l = append(l, num(int64(i*7919%many)), null)
	}
	l = append(l, l...)
	began := time.Now()
	sum := int64(many) * (many - 1) / 2
	for _, x := range []struct {
		op   string
		n    int64
		want int64
	}{{"count*", 0, 4 * many}, {"count*", 1, many + 1}, {"count", 0, 2 * many}, {"count", 1, many}, {"sum", 0, 2 * sum}, {"sum", 1, sum}, {"min", 1, 0}, {"max", 1, many - 1}} {
		if got, state := Total(api.Node{Op: x.op, N: x.n}, l); got != num(x.want) || state != api.Done {
			t.Errorf("P17.1: %s %d: %v, %s", x.op, x.n, got, state)
		}
	}
	if took := time.Since(began); took > 20*time.Second {
		t.Errorf("P1: it took %s", took)
	}
}

func TestTheFirstOfManyIsKept(t *testing.T) {
	for first := range 7 {
		var l []api.Value
		for i := range 300 {
			l = append(l, text("a"+strings.Repeat(" ", (first+i*5)%7)), text("b"+strings.Repeat(" ", (first+i*3)%7)))
		}
		for n := range int64(2) {
			totalIs(t, api.Node{Op: "min", N: n}, l, l[0], api.Done)
			totalIs(t, api.Node{Op: "max", N: n}, l, l[1], api.Done)
		}
		totalIs(t, api.Node{Op: "count", N: 1}, l, num(2), api.Done)
	}
}

func TestTotalLeavesWhatItIsHanded(t *testing.T) {
	behind := []api.Value{num(3), null, num(1), num(3), text("a"), text("a "), num(99), num(-99)}
	for _, op := range append(totals(), "zz") {
		for n := range int64(2) {
			for size := range len(behind) {
				kept := slices.Clone(behind)
				Total(api.Node{Op: op, N: n}, kept[:size])
				if !slices.Equal(kept, behind) {
					t.Errorf("P17.1: %s %d: %v is left of %v", op, n, kept, behind)
				}
				want, state := modelTotal(op, n == 1, behind[:size])
				if op != "zz" {
					totalIs(t, api.Node{Op: op, N: n}, behind[:size], want, state)
				}
			}
		}
	}
}
