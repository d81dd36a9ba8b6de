package locks

import (
	"math"
	"slices"
	"strings"
	"testing"

	"stile/api"
	"stile/modes"
)

func whole(name string) api.Object  { return api.Object{Space: 1, Table: name} }
func keys(lo, hi string) api.Object { return api.Object{Space: 2, Table: "t", Lo: lo, Hi: hi} }
func one(key string) api.Object     { return keys(key, key) }
func from(lo string) api.Object     { return api.Object{Space: 2, Table: "t", Lo: lo, End: true} }

// granted, waiting and short are requests as List has them.
func granted(tx int, o api.Object, m api.Mode) api.Request {
	return api.Request{Tx: tx, Object: o, Mode: m, Granted: true}
}

func waiting(tx int, o api.Object, m api.Mode) api.Request {
	return api.Request{Tx: tx, Object: o, Mode: m}
}

func short(r api.Request) api.Request {
	r.Short = true
	return r
}

func askedModes() []api.Mode { return []api.Mode{api.IS, api.IX, api.S, api.SIX, api.U, api.X} }

func newTable(t *testing.T, most int) *Table {
	t.Helper()
	x, e := New(most)
	if x == nil || e != api.OK {
		t.Fatalf("P11.1: New(%d): %v, %d", most, x, e)
	}
	return x
}

func asks(t *testing.T, x *Table, tx int, o api.Object, m api.Mode, brief, want bool) {
	t.Helper()
	if is, e := x.Ask(tx, o, m, brief); is != want || e != api.OK {
		t.Errorf("P11.1: Ask(%d, %v, %d, %v): %v, %d, not %v", tx, o, m, brief, is, e, want)
	}
	sound(t, x)
}

// gets and awaits ask for a lock that is not short, which is granted, or not.
func gets(t *testing.T, x *Table, tx int, o api.Object, m api.Mode) {
	t.Helper()
	asks(t, x, tx, o, m, false, true)
}

func awaits(t *testing.T, x *Table, tx int, o api.Object, m api.Mode) {
	t.Helper()
	asks(t, x, tx, o, m, false, false)
}

// fails asks for a lock, short and not, that can't be asked for, and that nothing changes by it.
func fails(t *testing.T, x *Table, tx int, o api.Object, m api.Mode, want api.Errno) {
	t.Helper()
	list, edges := x.List(), x.Edges()
	for _, brief := range []bool{false, true} {
		if is, e := x.Ask(tx, o, m, brief); is || e != want {
			t.Errorf("P11.1: Ask(%d, %v, %d, %v): %v, %d, not %d", tx, o, m, brief, is, e, want)
		}
	}
	lists(t, x, list...)
	edgesAre(t, x, edges...)
}

func ends(t *testing.T, x *Table, tx int, want ...int) {
	t.Helper()
	if is := x.End(tx); !slices.Equal(is, want) {
		t.Errorf("P11.1: End(%d): %v, not %v", tx, is, want)
	}
	sound(t, x)
}

func endsShort(t *testing.T, x *Table, tx int, want ...int) {
	t.Helper()
	if is := x.EndShort(tx); !slices.Equal(is, want) {
		t.Errorf("P11.1: EndShort(%d): %v, not %v", tx, is, want)
	}
	sound(t, x)
}

func lists(t *testing.T, x *Table, want ...api.Request) {
	t.Helper()
	if is := x.List(); !slices.Equal(is, want) {
		t.Errorf("P11.1: List: %v, not %v", is, want)
	}
}

func edgesAre(t *testing.T, x *Table, want ...[2]int) {
	t.Helper()
	if is := x.Edges(); !slices.Equal(is, want) {
		t.Errorf("P11.1: Edges: %v, not %v", is, want)
	}
}

func has(t *testing.T, x *Table, tx int, o api.Object, m api.Mode, want bool) {
	t.Helper()
	if is := x.Has(tx, o, m); is != want {
		t.Errorf("P11.1: Has(%d, %v, %d): %v", tx, o, m, is)
	}
}

func TestNew(t *testing.T) {
	for _, most := range []int{math.MinInt, -2000, -1, 0, 2001, 2002, 1 << 32, 1<<32 + 1, math.MaxInt} {
		if x, e := New(most); x != nil || e != api.ErrArg {
			t.Errorf("P11.1: New(%d): %v, %d", most, x, e)
		}
	}
	for _, most := range []int{1, 2, 3, 1999, 2000} {
		x := newTable(t, most)
		lists(t, x)
		edgesAre(t, x)
		for tx := range most {
			if is, e := x.Ask(tx+1, whole("t"), api.IS, false); !is || e != api.OK {
				t.Fatalf("P11.1: of %d the request %d: %v, %d", most, tx, is, e)
			}
		}
		fails(t, x, most+1, whole("t"), api.IS, api.ErrLockFull)
		fails(t, x, 1, whole("u"), api.IS, api.ErrLockFull)
	}
}

func TestExample(t *testing.T) {
	x := newTable(t, 10)
	gets(t, x, 1, whole("t"), api.S)
	awaits(t, x, 2, whole("t"), api.IX)
	edgesAre(t, x, [2]int{2, 1})
	gets(t, x, 3, whole("t"), api.IS)
	awaits(t, x, 4, whole("t"), api.S)
	ends(t, x, 1, 2)
	lists(t, x, granted(2, whole("t"), api.IX), granted(3, whole("t"), api.IS), waiting(4, whole("t"), api.S))
	edgesAre(t, x, [2]int{4, 2})
}

func wrongObjects() []api.Object {
	return []api.Object{
		{Table: "t"}, {Lo: "a"}, {Hi: "a"}, {End: true},
		{Space: 1}, {Space: 1, Table: "t", Lo: "a"}, {Space: 1, Table: "t", Hi: "a"}, {Space: 1, Table: "t", End: true},
		{Space: 2}, {Space: 2, Lo: "a", Hi: "b"}, keys("b", "a"), keys("a", ""), {Space: 2, Table: "t", Lo: "a", Hi: "b", End: true}, {Space: 7, Lo: "a", End: true},
		{Space: -1, Table: "t"}, {Space: 8, Table: "t", Lo: "a", Hi: "b"}, {Space: math.MaxInt, Table: "t"}, {Space: math.MinInt},
	}
}

func TestWrongRequests(t *testing.T) {
	x := newTable(t, 2)
	ask := func() {
		t.Helper()
		for _, tx := range []int{math.MinInt, -2, -1, 0} {
			for _, o := range []api.Object{{}, whole("t"), one("a"), from("")} {
				fails(t, x, tx, o, api.S, api.ErrLockForm)
			}
			if x.Waits(tx) {
				t.Errorf("P11.1: %d waits", tx)
			}
		}
		for _, o := range wrongObjects() {
			for _, tx := range []int{0, 1, 2, 9} {
				fails(t, x, tx, o, api.S, api.ErrLockForm)
			}
		}
		for _, m := range []api.Mode{math.MinInt, -6, -1, api.NL, 7, 8, 1<<32 + 1, math.MaxInt} {
			for _, o := range []api.Object{{}, whole("t"), one("a"), from("")} {
				for _, tx := range []int{0, 1, 2, 9} {
					fails(t, x, tx, o, m, api.ErrLockForm)
				}
			}
		}
	}
	ask()
	gets(t, x, 1, whole("t"), api.X)
	ask()
	// ErrLockForm is named ahead of ErrLockFull.
	awaits(t, x, 2, whole("t"), api.X)
	ask()
	fails(t, x, 1, one("a"), api.S, api.ErrLockFull)
	lists(t, x, granted(1, whole("t"), api.X), waiting(2, whole("t"), api.X))
}

func TestWhoWaitsAsksForNothing(t *testing.T) {
	x := newTable(t, 20)
	gets(t, x, 1, whole("t"), api.S)
	asks(t, x, 2, one("a"), api.U, true, true)
	gets(t, x, 2, whole("t"), api.IS)
	awaits(t, x, 2, whole("t"), api.IX)
	for _, o := range []api.Object{{}, whole("t"), whole("u"), one("a"), one("b"), from("")} {
		for _, m := range askedModes() {
			fails(t, x, 2, o, m, api.ErrLockForm)
		}
	}
	// What it has it has still, and what was short is.
	has(t, x, 2, one("a"), api.U, true)
	has(t, x, 2, whole("t"), api.IX, false)
	lists(t, x, granted(1, whole("t"), api.S), short(granted(2, one("a"), api.U)), granted(2, whole("t"), api.IS), waiting(2, whole("t"), api.IX))
	ends(t, x, 1, 2)
	gets(t, x, 2, one("b"), api.S)
}

func TestEachMode(t *testing.T) {
	long := strings.Repeat("k", api.MaxKey)
	for _, m := range askedModes() {
		x := newTable(t, 100)
		var want []api.Request
		for i, o := range []api.Object{{}, whole("t"), whole("u"), one("a"), one(""), one(long), {Space: 7, Table: "t", Lo: "a", End: true}, {Space: 3, Table: "t", Lo: "a", Hi: "c"}} {
			tx := 1 + i%2
			if i == 3 {
				tx = math.MaxInt
			}
			asks(t, x, tx, o, m, i%3 == 0, true)
			has(t, x, tx, o, m, true)
			r := granted(tx, o, m)
			r.Short = i%3 == 0
			want = append(want, r)
		}
		lists(t, x, want...)
		edgesAre(t, x)
	}
}

// Each mode that is there, and each one that is asked for, on the same object and on one within it.
func TestAskedForAgain(t *testing.T) {
	around, within := keys("b", "d"), []api.Object{keys("b", "d"), keys("b", "c"), keys("c", "d"), one("b"), one("c"), one("d")}
	for _, held := range askedModes() {
		for _, m := range askedModes() {
			for _, o := range within {
				x := newTable(t, 10)
				gets(t, x, 1, around, held)
				gets(t, x, 1, o, m)
				if modes.Covers(held, m) {
					lists(t, x, granted(1, around, held))
				} else {
					lists(t, x, granted(1, around, held), granted(1, o, m))
				}
			}
		}
	}
}

func TestNotHadByAnotherOne(t *testing.T) {
	x := newTable(t, 50)
	has(t, x, 1, whole("t"), api.IS, false)
	want := []api.Request{granted(1, whole("t"), api.X), granted(1, keys("b", "d"), api.X), granted(1, keys("e", "f"), api.X)}
	for _, r := range want {
		gets(t, x, 1, r.Object, r.Mode)
	}
	// None of these lies within one that comes ahead of it.
	others := []api.Object{
		{}, whole("u"), one("a"), one("d\x00"), keys("a", "b"), keys("a", "d"), keys("c", "e"), keys("b", "f"), from("c"), from("b"),
		{Space: 3, Table: "t", Lo: "b", Hi: "d"}, {Space: 2, Table: "u", Lo: "b", Hi: "d"}, {Space: 7, Table: "t", Lo: "c", Hi: "c"},
	}
	for _, o := range others {
		has(t, x, 1, o, api.IS, false)
		has(t, x, 2, o, api.IS, false)
	}
	for _, r := range want {
		has(t, x, 1, r.Object, api.IS, true)
		has(t, x, 2, r.Object, api.IS, false)
		has(t, x, 0, r.Object, api.IS, false)
	}
	for _, o := range others {
		gets(t, x, 1, o, api.S)
		want = append(want, granted(1, o, api.S))
	}
	lists(t, x, want...)
}

func TestHas(t *testing.T) {
	x := newTable(t, 20)
	gets(t, x, 1, from("b"), api.U)
	gets(t, x, 1, keys("a", "c"), api.IX)
	awaits(t, x, 2, one("c"), api.X)
	for _, m := range []api.Mode{api.NL, api.IS, api.S, api.U} {
		for _, o := range []api.Object{from("b"), from("c"), one("b"), one("c"), keys("b", "zzz")} {
			has(t, x, 1, o, m, true)
		}
	}
	has(t, x, 1, one("a"), api.IX, true)
	has(t, x, 1, one("a"), api.S, false)
	has(t, x, 1, one("d"), api.IX, false)
	// Two that together would cover SIX do not, one by one.
	has(t, x, 1, one("b"), api.SIX, false)
	has(t, x, 1, from("a"), api.IS, false)
	for _, m := range []api.Mode{math.MinInt, -1, 7, math.MaxInt} {
		has(t, x, 1, one("b"), m, false)
	}
	for _, o := range wrongObjects() {
		has(t, x, 1, o, api.IS, false)
		has(t, x, 1, o, api.NL, false)
	}
	// What waits is not had.
	for _, m := range append(askedModes(), api.NL) {
		has(t, x, 2, one("c"), m, false)
	}
	for _, tx := range []int{math.MinInt, -1, 0, 3, math.MaxInt} {
		has(t, x, tx, one("b"), api.IS, false)
	}
}

func TestShortOnesThatStay(t *testing.T) {
	x := newTable(t, 20)
	asks(t, x, 1, one("a"), api.S, true, true)
	asks(t, x, 2, one("a"), api.S, true, true)
	asks(t, x, 1, one("a"), api.S, true, true)
	lists(t, x, short(granted(1, one("a"), api.S)), short(granted(2, one("a"), api.S)))
	gets(t, x, 1, one("a"), api.S)
	lists(t, x, granted(1, one("a"), api.S), short(granted(2, one("a"), api.S)))
	// It does not become short again.
	asks(t, x, 1, one("a"), api.S, true, true)
	endsShort(t, x, 1)
	endsShort(t, x, 2)
	lists(t, x, granted(1, one("a"), api.S))
}

func TestShortOnesThatStayShort(t *testing.T) {
	x := newTable(t, 20)
	// Another object: one around it is there.
	asks(t, x, 1, keys("a", "c"), api.S, true, true)
	gets(t, x, 1, one("b"), api.S)
	gets(t, x, 1, keys("a", "b"), api.S)
	// Another mode: one that covers it is there.
	asks(t, x, 1, one("d"), api.U, true, true)
	gets(t, x, 1, one("d"), api.S)
	gets(t, x, 1, one("d"), api.IS)
	want := []api.Request{short(granted(1, keys("a", "c"), api.S)), short(granted(1, one("d"), api.U))}
	lists(t, x, want...)
	// Of several by which it is had just the one that was asked for stays.
	asks(t, x, 1, keys("a", "c"), api.X, true, true)
	gets(t, x, 1, keys("a", "c"), api.S)
	want[0].Short = false
	lists(t, x, append(want, short(granted(1, keys("a", "c"), api.X)))...)
	endsShort(t, x, 1)
	lists(t, x, granted(1, keys("a", "c"), api.S))
	has(t, x, 1, one("b"), api.S, true)
	has(t, x, 1, one("d"), api.IS, false)
}

func TestFull(t *testing.T) {
	x := newTable(t, 4)
	asks(t, x, 1, one("a"), api.S, true, true)
	gets(t, x, 2, one("a"), api.S)
	awaits(t, x, 3, one("a"), api.X)
	gets(t, x, 2, one("b"), api.X)
	// One that would be granted, one that would wait, a conversion.
	fails(t, x, 4, one("c"), api.S, api.ErrLockFull)
	fails(t, x, 4, one("b"), api.S, api.ErrLockFull)
	fails(t, x, 2, one("a"), api.X, api.ErrLockFull)
	if x.Waits(4) || x.Waits(2) {
		t.Errorf("P11.1: what found no room waits")
	}
	// What is there already needs no room, and stays from then on.
	asks(t, x, 1, one("a"), api.S, true, true)
	asks(t, x, 2, one("b"), api.IS, false, true)
	lists(t, x, short(granted(1, one("a"), api.S)), granted(2, one("a"), api.S), waiting(3, one("a"), api.X), granted(2, one("b"), api.X))
	gets(t, x, 1, one("a"), api.S)
	lists(t, x, granted(1, one("a"), api.S), granted(2, one("a"), api.S), waiting(3, one("a"), api.X), granted(2, one("b"), api.X))
	ends(t, x, 1)
	awaits(t, x, 4, one("b"), api.S)
	fails(t, x, 5, one("c"), api.S, api.ErrLockFull)
	ends(t, x, 2, 3, 4)
	gets(t, x, 5, one("c"), api.S)
	gets(t, x, 5, one("d"), api.S)
	fails(t, x, 5, one("e"), api.S, api.ErrLockFull)
}
