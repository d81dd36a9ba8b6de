package locks

import (
	"math"
	"slices"
	"testing"

	"stile/api"
)

// clashing holds, for each mode that one has, those that another one must wait for: not taken from package modes.
func clashing() [7][]api.Mode {
	return [7][]api.Mode{
		api.IS:  {api.X},
		api.IX:  {api.S, api.SIX, api.U, api.X},
		api.S:   {api.IX, api.SIX, api.X},
		api.SIX: {api.IX, api.S, api.SIX, api.U, api.X},
		api.U:   {api.IX, api.S, api.SIX, api.U, api.X},
		api.X:   {api.IS, api.IX, api.S, api.SIX, api.U, api.X},
	}
}

func TestClashOfModes(t *testing.T) {
	for _, o := range []api.Object{{}, whole("t"), one("a"), keys("a", "b"), from("")} {
		for _, held := range askedModes() {
			for _, m := range askedModes() {
				x := newTable(t, 10)
				gets(t, x, 1, o, held)
				fits := !slices.Contains(clashing()[held], m)
				asks(t, x, 2, o, m, false, fits)
				if x.Waits(2) == fits || x.Waits(1) {
					t.Errorf("P11.1: %d is there, %d asked for: who waits", held, m)
				}
				if fits {
					lists(t, x, granted(1, o, held), granted(2, o, m))
					edgesAre(t, x)
				} else {
					lists(t, x, granted(1, o, held), waiting(2, o, m))
					edgesAre(t, x, [2]int{2, 1})
				}
			}
		}
	}
}

func TestClashOfObjects(t *testing.T) {
	other := func(o api.Object, space int, name string) api.Object {
		o.Space, o.Table = space, name
		return o
	}
	for _, c := range []struct {
		a, b api.Object
		meet bool
	}{
		{api.Object{}, api.Object{}, true},
		{api.Object{}, whole("t"), false},
		{whole("t"), whole("t"), true},
		{whole("t"), whole("u"), false},
		{whole("t"), one("a"), false},
		{whole("t"), from(""), false},
		{one("a"), one("a"), true},
		{one("a"), one("b"), false},
		{one("a"), one("a\x00"), false},
		{keys("a", "c"), one("b"), true},
		{keys("a", "c"), one("c"), true},
		{keys("a", "c"), one("c\x00"), false},
		{keys("a", "c"), keys("c", "d"), true},
		{keys("a", "c"), keys("b", "d"), true},
		{keys("a", "b"), keys("c", "d"), false},
		{keys("a", "c"), from("c"), true},
		{keys("a", "c"), from("d"), false},
		{from("a"), from("z"), true},
		{from("b"), one("a"), false},
		{keys("a", "c"), other(keys("a", "c"), 3, "t"), false},
		{keys("a", "c"), other(keys("a", "c"), 2, "u"), false},
		{other(from("a"), 7, "t"), other(one("b"), 7, "t"), true},
	} {
		for _, o := range [][2]api.Object{{c.a, c.b}, {c.b, c.a}} {
			x := newTable(t, 10)
			gets(t, x, 1, o[0], api.X)
			asks(t, x, 2, o[1], api.IS, true, !c.meet)
			// Of one transaction nothing clashes.
			ends(t, x, 2)
			gets(t, x, 1, o[1], api.X)
		}
	}
}

// Two that wait clash if one of them does not fit beside the other one, whichever is the earlier one.
func TestClashOfTwoThatWait(t *testing.T) {
	for _, first := range askedModes() {
		for _, second := range askedModes() {
			x := newTable(t, 10)
			gets(t, x, 1, whole("t"), api.X)
			awaits(t, x, 2, whole("t"), first)
			awaits(t, x, 3, whole("t"), second)
			clash := slices.Contains(clashing()[first], second) || slices.Contains(clashing()[second], first)
			want := [][2]int{{2, 1}, {3, 1}}
			if clash {
				want = append(want, [2]int{3, 2})
			}
			edgesAre(t, x, want...)
			// Once the first is granted it counts alone whether the second one fits beside it.
			if slices.Contains(clashing()[first], second) {
				ends(t, x, 1, 2)
				ends(t, x, 2, 3)
			} else {
				ends(t, x, 1, 2, 3)
			}
		}
	}
}

func TestNoOneOvertakes(t *testing.T) {
	x := newTable(t, 20)
	gets(t, x, 1, keys("a", "c"), api.S)
	awaits(t, x, 2, keys("c", "e"), api.X)
	// It fits beside all that is granted, but an earlier one waits.
	awaits(t, x, 3, one("e"), api.S)
	awaits(t, x, 4, one("c"), api.S)
	gets(t, x, 5, one("a"), api.S)
	gets(t, x, 5, one("f"), api.X)
	edgesAre(t, x, [2]int{2, 1}, [2]int{3, 2}, [2]int{4, 2})
	ends(t, x, 1, 2)
	edgesAre(t, x, [2]int{3, 2}, [2]int{4, 2})
	ends(t, x, 2, 3, 4)
	edgesAre(t, x)
}

// U fits beside S, S does not beside U.
func TestUpdateBesideShared(t *testing.T) {
	x := newTable(t, 20)
	gets(t, x, 1, one("a"), api.S)
	gets(t, x, 2, one("a"), api.U)
	awaits(t, x, 3, one("a"), api.S)
	awaits(t, x, 2, one("a"), api.X)
	edgesAre(t, x, [2]int{3, 2}, [2]int{2, 1})
	ends(t, x, 1, 2)
	ends(t, x, 2, 3)
}

func TestConversion(t *testing.T) {
	x := newTable(t, 20)
	gets(t, x, 1, one("a"), api.S)
	gets(t, x, 2, one("a"), api.S)
	awaits(t, x, 3, one("a"), api.X)
	// It does not wait for 3, which came earlier.
	awaits(t, x, 1, one("a"), api.X)
	edgesAre(t, x, [2]int{3, 1}, [2]int{3, 2}, [2]int{1, 2})
	// Who is behind it waits for it.
	awaits(t, x, 4, one("a"), api.IS)
	edgesAre(t, x, [2]int{3, 1}, [2]int{3, 2}, [2]int{1, 2}, [2]int{4, 1}, [2]int{4, 3})
	ends(t, x, 2, 1)
	lists(t, x, granted(1, one("a"), api.S), waiting(3, one("a"), api.X), granted(1, one("a"), api.X), waiting(4, one("a"), api.IS))
	edgesAre(t, x, [2]int{3, 1}, [2]int{4, 1}, [2]int{4, 3})
	ends(t, x, 1, 3)
	ends(t, x, 3, 4)
}

func TestConversionAtOnce(t *testing.T) {
	x := newTable(t, 20)
	asks(t, x, 1, whole("t"), api.S, true, true)
	awaits(t, x, 2, whole("t"), api.IX)
	awaits(t, x, 3, whole("t"), api.S)
	gets(t, x, 1, whole("t"), api.SIX)
	lists(t, x, short(granted(1, whole("t"), api.S)), waiting(2, whole("t"), api.IX), waiting(3, whole("t"), api.S), granted(1, whole("t"), api.SIX))
	// 3 has one more to wait for: what was granted behind it counts, too.
	edgesAre(t, x, [2]int{2, 1}, [2]int{3, 1}, [2]int{3, 2})
}

// What one has on another object makes no conversion, however much the two have in common.
func TestNoConversion(t *testing.T) {
	for _, has := range []api.Object{one("a"), keys("a", "b"), from("a"), one("b"), whole("t"), {Space: 3, Table: "t", Lo: "a", Hi: "a"}, {Space: 2, Table: "u", Lo: "a", Hi: "a"}} {
		x := newTable(t, 20)
		gets(t, x, 1, has, api.IS)
		gets(t, x, 2, one("a"), api.S)
		awaits(t, x, 3, one("a"), api.IX)
		// It fits beside all that is granted.
		if has == one("a") {
			gets(t, x, 1, one("a"), api.S)
			edgesAre(t, x, [2]int{3, 1}, [2]int{3, 2})
		} else {
			awaits(t, x, 1, one("a"), api.S)
			edgesAre(t, x, [2]int{3, 2}, [2]int{1, 3})
		}
	}
}

// What waits, or another one's, makes none either.
func TestNoConversionOfAnotherOnes(t *testing.T) {
	x := newTable(t, 20)
	gets(t, x, 1, one("a"), api.S)
	awaits(t, x, 2, one("a"), api.IX)
	awaits(t, x, 3, one("a"), api.S)
	edgesAre(t, x, [2]int{2, 1}, [2]int{3, 2})
}

func TestTwoConversions(t *testing.T) {
	x := newTable(t, 20)
	gets(t, x, 7, one("a"), api.S)
	gets(t, x, 5, one("a"), api.S)
	awaits(t, x, 5, one("a"), api.X)
	awaits(t, x, 7, one("a"), api.X)
	edgesAre(t, x, [2]int{5, 7}, [2]int{7, 5})
	endsShort(t, x, 7)
	ends(t, x, 7, 5)
	lists(t, x, granted(5, one("a"), api.S), granted(5, one("a"), api.X))
}

// A conversion is none any more when what it converts has ended.
func TestConversionThatWasOne(t *testing.T) {
	x := newTable(t, 20)
	asks(t, x, 1, one("a"), api.S, true, true)
	gets(t, x, 2, one("a"), api.S)
	awaits(t, x, 3, one("a"), api.X)
	awaits(t, x, 1, one("a"), api.X)
	edgesAre(t, x, [2]int{3, 1}, [2]int{3, 2}, [2]int{1, 2})
	endsShort(t, x, 1)
	lists(t, x, granted(2, one("a"), api.S), waiting(3, one("a"), api.X), waiting(1, one("a"), api.X))
	edgesAre(t, x, [2]int{3, 2}, [2]int{1, 2}, [2]int{1, 3})
	ends(t, x, 2, 3)
	ends(t, x, 3, 1)
}

func TestEnd(t *testing.T) {
	x := newTable(t, 20)
	want := []api.Request{granted(4, whole("t"), api.X), waiting(9, whole("t"), api.S), waiting(3, whole("t"), api.IX), waiting(2, whole("t"), api.U), waiting(8, whole("t"), api.IS)}
	for _, r := range want {
		asks(t, x, r.Tx, r.Object, r.Mode, false, r.Granted)
	}
	for _, tx := range []int{math.MinInt, -1, 0, 1, 5, 10, math.MaxInt} {
		ends(t, x, tx)
		endsShort(t, x, tx)
	}
	lists(t, x, want...)
	// One after the other, in the order in which they came: S that is granted lets U be, which S that waits did not.
	without := newTable(t, 20)
	for _, r := range want {
		if r.Tx != 3 {
			asks(t, without, r.Tx, r.Object, r.Mode, false, r.Granted)
		}
	}
	ends(t, without, 4, 9, 2, 8)
	ends(t, x, 4, 9, 8)
	lists(t, x, granted(9, whole("t"), api.S), waiting(3, whole("t"), api.IX), waiting(2, whole("t"), api.U), granted(8, whole("t"), api.IS))
	edgesAre(t, x, [2]int{3, 9}, [2]int{2, 3})
	// One that waits ends: who waits for it alone goes on.
	ends(t, x, 3, 2)
	ends(t, x, 9)
	ends(t, x, 2)
	lists(t, x, granted(8, whole("t"), api.IS))
	ends(t, x, 8)
	lists(t, x)
	gets(t, x, 1, whole("t"), api.X)
}

func TestEndOfWhoWaitsAndHas(t *testing.T) {
	x := newTable(t, 20)
	gets(t, x, 1, one("a"), api.X)
	asks(t, x, 2, one("b"), api.X, true, true)
	gets(t, x, 2, one("c"), api.X)
	awaits(t, x, 3, one("c"), api.S)
	awaits(t, x, 4, one("b"), api.S)
	awaits(t, x, 2, one("a"), api.S)
	awaits(t, x, 5, one("a"), api.X)
	// What it had is gone with what it waited for; 3 came ahead of 4.
	ends(t, x, 2, 3, 4)
	lists(t, x, granted(1, one("a"), api.X), granted(3, one("c"), api.S), granted(4, one("b"), api.S), waiting(5, one("a"), api.X))
	if x.Waits(2) {
		t.Errorf("P11.1: 2 waits, behind its end")
	}
	gets(t, x, 2, one("d"), api.S)
}

func TestEndShort(t *testing.T) {
	x := newTable(t, 20)
	asks(t, x, 1, one("a"), api.S, true, true)
	gets(t, x, 1, one("b"), api.S)
	asks(t, x, 1, one("c"), api.S, true, true)
	asks(t, x, 2, one("c"), api.S, true, true)
	gets(t, x, 3, one("z"), api.X)
	awaits(t, x, 4, one("c"), api.X)
	awaits(t, x, 5, one("b"), api.X)
	awaits(t, x, 6, one("a"), api.X)
	// A short one that waits is not ended.
	asks(t, x, 1, one("z"), api.S, true, false)
	endsShort(t, x, 1, 6)
	lists(t, x,
		granted(1, one("b"), api.S), short(granted(2, one("c"), api.S)), granted(3, one("z"), api.X),
		waiting(4, one("c"), api.X), waiting(5, one("b"), api.X), granted(6, one("a"), api.X), short(waiting(1, one("z"), api.S)))
	endsShort(t, x, 1)
	endsShort(t, x, 2, 4)
	ends(t, x, 3, 1)
	// Granted, it is one that ends.
	endsShort(t, x, 1)
	lists(t, x, granted(1, one("b"), api.S), granted(4, one("c"), api.X), waiting(5, one("b"), api.X), granted(6, one("a"), api.X))
	ends(t, x, 1, 5)
}

func TestWaits(t *testing.T) {
	x := newTable(t, 20)
	gets(t, x, 1, one("a"), api.X)
	awaits(t, x, 2, one("a"), api.IS)
	for tx, want := range map[int]bool{math.MinInt: false, -2: false, 0: false, 1: false, 2: true, 3: false, math.MaxInt: false} {
		if x.Waits(tx) != want {
			t.Errorf("P11.1: Waits(%d): %v", tx, !want)
		}
	}
	ends(t, x, 1, 2)
	if x.Waits(2) {
		t.Errorf("P11.1: 2 waits, but was granted")
	}
}

func TestEdges(t *testing.T) {
	x := newTable(t, 40)
	// 9 and 4 each have several that are in the way, and come in no order.
	for _, k := range []string{"c", "a"} {
		gets(t, x, 9, one(k), api.S)
	}
	gets(t, x, 4, one("b"), api.S)
	gets(t, x, 4, one("c"), api.S)
	gets(t, x, 7, one("d"), api.S)
	awaits(t, x, 8, keys("a", "b"), api.X)
	awaits(t, x, 2, one("a"), api.X)
	awaits(t, x, 5, from("b"), api.X)
	awaits(t, x, 3, from("a"), api.X)
	// 4's own request that waits keeps others waiting, too, but none twice.
	awaits(t, x, 4, one("d"), api.X)
	awaits(t, x, 1, from("d"), api.X)
	edgesAre(t, x,
		[2]int{8, 4}, [2]int{8, 9},
		[2]int{2, 8}, [2]int{2, 9},
		[2]int{5, 4}, [2]int{5, 7}, [2]int{5, 8}, [2]int{5, 9},
		[2]int{3, 2}, [2]int{3, 4}, [2]int{3, 5}, [2]int{3, 7}, [2]int{3, 8}, [2]int{3, 9},
		[2]int{4, 3}, [2]int{4, 5}, [2]int{4, 7},
		[2]int{1, 3}, [2]int{1, 4}, [2]int{1, 5}, [2]int{1, 7})
	edges := x.Edges()
	ends(t, x, 6)
	edgesAre(t, x, edges...)
}

func TestNil(t *testing.T) {
	var x *Table
	for _, tx := range []int{math.MinInt, 0, 1, math.MaxInt} {
		for _, o := range append(wrongObjects(), one("a"), api.Object{}) {
			for _, m := range append(askedModes(), -1, api.NL, 7) {
				if is, e := x.Ask(tx, o, m, tx > 0); is || e != api.ErrArg {
					t.Fatalf("P11.1: Ask of nil: %v, %d", is, e)
				}
				has(t, x, tx, o, m, false)
			}
		}
		if x.Waits(tx) || len(x.End(tx)) > 0 || len(x.EndShort(tx)) > 0 {
			t.Errorf("P11.1: nil, %d: not nothing", tx)
		}
	}
	lists(t, x)
	edgesAre(t, x)
}

func TestAnswersAreNewMemory(t *testing.T) {
	x := newTable(t, 20)
	gets(t, x, 1, one("a"), api.X)
	asks(t, x, 2, one("a"), api.S, true, false)
	awaits(t, x, 3, one("a"), api.X)
	list, edges := x.List(), x.Edges()
	a, b := x.List(), x.Edges()
	spoil := func(a []api.Request, b [][2]int) {
		a, b = a[:cap(a)], b[:cap(b)]
		for i := range a {
			a[i] = api.Request{Tx: 99, Object: whole("z"), Mode: api.X, Granted: true}
		}
		for i := range b {
			b[i] = [2]int{98, 99}
		}
	}
	spoil(a, b)
	lists(t, x, list...)
	edgesAre(t, x, edges...)
	a, b = x.List(), x.Edges()
	ended := x.End(1)
	if !slices.Equal(ended, []int{2}) || !slices.Equal(a, list) || !slices.Equal(b, edges) {
		t.Errorf("P11.1: End: %v; what was told ahead: %v, %v", ended, a, b)
	}
	for i := range ended[:cap(ended)] {
		ended[:cap(ended)][i] = 99
	}
	spoil(a, b)
	lists(t, x, short(granted(2, one("a"), api.S)), waiting(3, one("a"), api.X))
	shorts := x.EndShort(2)
	if !slices.Equal(shorts, []int{3}) {
		t.Errorf("P11.1: EndShort: %v", shorts)
	}
	shorts[0] = 99
	lists(t, x, granted(3, one("a"), api.X))
}

// As many requests as there may be, of which all but one wait.
func TestMany(t *testing.T) {
	const most = api.MaxLocks
	full := func(m api.Mode) *Table {
		x := newTable(t, most)
		x.Ask(1, whole("t"), api.X, false)
		for tx := 2; tx <= most; tx++ {
			if is, e := x.Ask(tx, whole("t"), m, false); is || e != api.OK {
				t.Fatalf("P11.1: Ask of %d: %v, %d", tx, is, e)
			}
		}
		fails(t, x, most+1, whole("u"), m, api.ErrLockFull)
		return x
	}
	x := full(api.X)
	edges := x.Edges()
	if len(edges) != most*(most-1)/2 || edges[0] != [2]int{2, 1} || edges[len(edges)-1] != [2]int{most, most - 1} {
		t.Errorf("P11.1: of all the edges %d", len(edges))
	}
	if is := x.End(1); !slices.Equal(is, []int{2}) {
		t.Errorf("P11.1: End: %d", len(is))
	}
	x = full(api.S)
	if edges := x.Edges(); len(edges) != most-1 || edges[most-2] != [2]int{most, 1} {
		t.Errorf("P11.1: of all the edges %d", len(edges))
	}
	if is := x.End(1); len(is) != most-1 || is[0] != 2 || is[most-2] != most {
		t.Errorf("P11.1: End: %d", len(is))
	}
}
