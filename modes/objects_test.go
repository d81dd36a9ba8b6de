package modes

import (
	"fmt"
	"math"
	"strings"
	"testing"

	"stile/api"
)

func keys(lo, hi string) api.Object { return api.Object{Space: 2, Table: "t", Lo: lo, Hi: hi} }
func from(lo string) api.Object     { return api.Object{Space: 2, Table: "t", Lo: lo, End: true} }
func table(name string) api.Object  { return api.Object{Space: 1, Table: name} }

// told is an object for a message; of long keys their beginnings.
func told(o api.Object) string {
	return fmt.Sprintf("{%d %.40q %.40q to %.40q %v}", o.Space, o.Table, o.Lo, o.Hi, o.End)
}

// moved is an object's keys in another space.
func moved(o api.Object, space int) api.Object {
	o.Space = space
	return o
}

// of is an object's keys of another table.
func of(o api.Object, name string) api.Object {
	o.Table = name
	return o
}

// someKeys holds keys that rise: each of up to two of three bytes.
func someKeys() []string {
	out := []string{""}
	for _, a := range []string{"\x00", "a", "\xff"} {
		out = append(out, a)
		for _, b := range []string{"\x00", "a", "\xff"} {
			out = append(out, a+b)
		}
	}
	return out
}

// someRanges holds all ranges between the keys of someKeys, with and without an end.
func someRanges() []api.Object {
	var out []api.Object
	for i, lo := range someKeys() {
		out = append(out, from(lo))
		for _, hi := range someKeys()[i:] {
			out = append(out, keys(lo, hi))
		}
	}
	return out
}

func wrongObjects() []api.Object {
	out := []api.Object{
		{Table: "t"}, {Lo: "a"}, {Hi: "a"}, {Lo: "a", Hi: "a"}, {End: true}, {Table: "t", Lo: "a", Hi: "b"}, {Lo: "a", End: true},
		{Space: 1}, {Space: 1, Lo: "a"}, {Space: 1, Table: "t", Lo: "a"}, {Space: 1, Table: "t", Hi: "a"},
		{Space: 1, Table: "t", Lo: "a", Hi: "a"}, {Space: 1, Table: "t", End: true}, {Space: 1, Table: "t", Lo: "a", End: true}, {Space: 1, End: true},
	}
	for space := 2; space <= 7; space++ {
		for _, o := range []api.Object{
			of(keys("", ""), ""), of(keys("a", "b"), ""), of(from(""), ""), of(from("a"), ""),
			keys("b", "a"), keys("a", ""), keys("a\x00", "a"), keys("\xff", "\x7f"), keys("b", "ab"),
			{Table: "t", Hi: "a", End: true}, {Table: "t", Lo: "a", Hi: "a", End: true}, {Table: "t", Lo: "a", Hi: "b", End: true}, {Table: "t", Lo: "b", Hi: "a", End: true}, {Table: "t", Hi: "\x00", End: true},
		} {
			out = append(out, moved(o, space))
		}
	}
	for _, space := range []int{-1, -2, -7, 8, 9, 1 << 32, 1<<32 + 2, math.MinInt, math.MaxInt} {
		for _, o := range []api.Object{{}, table("t"), keys("", ""), keys("a", "b"), from(""), from("a")} {
			out = append(out, moved(o, space))
		}
	}
	return out
}

func rightObjects() []api.Object {
	long := strings.Repeat("\xff", api.MaxKey)
	out := []api.Object{{}, table("t"), table("u"), table(" "), table("\x00"), table(strings.Repeat("t", api.MaxName))}
	for space := 2; space <= 7; space++ {
		for _, o := range []api.Object{
			keys("", ""), keys("", "a"), keys("a", "a"), keys("a", "b"), keys("a", "a\x00"), keys("ab", "b"), keys("\x7f", "\xff"), keys("a", long), keys(long, long),
			from(""), from("a"), from("\xff"), from(long),
		} {
			out = append(out, moved(o, space), moved(of(o, "u"), space))
		}
	}
	return out
}

func TestPlace(t *testing.T) {
	for _, o := range append(rightObjects(), someRanges()...) {
		if !Place(o) {
			t.Errorf("P10.1: Place(%s) is false", told(o))
		}
	}
	for _, o := range wrongObjects() {
		if Place(o) {
			t.Errorf("P10.1: Place(%s) is true", told(o))
		}
	}
}

func TestPairs(t *testing.T) {
	for _, x := range []struct {
		a, b         api.Object
		meet, within bool
	}{
		{keys("a", "c"), from("c"), true, false},
		{keys("a", "b"), from("a"), true, true},
		{from("a"), keys("a", "b"), true, false},
		{from("a"), keys("a", "\xff\xff"), true, false},
		{keys("a", "b"), from("c"), false, false},
		{keys("c", "c"), from("c"), true, true},
		{keys("b", "c"), from("c"), true, false},
		{from("b"), from("a"), true, true},
		{from("a"), from("b"), true, false},
		{from("a"), from("a"), true, true},
		{from("a"), from(""), true, true},
		{keys("a", "b"), keys("c", "d"), false, false},
		{keys("c", "d"), keys("a", "b"), false, false},
		{keys("a", "b"), keys("b\x00", "c"), false, false},
		{keys("a", "b"), keys("b", "c"), true, false},
		{keys("b", "c"), keys("a", "b"), true, false},
		{keys("a", "c"), keys("b", "d"), true, false},
		{keys("b", "c"), keys("a", "d"), true, true},
		{keys("a", "d"), keys("b", "c"), true, false},
		{keys("a", "b"), keys("a", "c"), true, true},
		{keys("b", "c"), keys("a", "c"), true, true},
		{keys("a", "b"), keys("a", "b"), true, true},
		{keys("", ""), keys("", ""), true, true},
		{keys("", ""), keys("a", "a"), false, false},
		{keys("", ""), from(""), true, true},
		{keys("", ""), from("\x00"), false, false},
		{keys("a", "a\xff"), keys("a", "b"), true, true},
		{keys("a", "b"), keys("a", "a\xff"), true, false},
		{api.Object{}, api.Object{}, true, true},
		{table("t"), table("t"), true, true},
		{table("t"), table("u"), false, false},
		{table("t"), table("tt"), false, false},
		{table("t"), api.Object{}, false, false},
		{api.Object{}, table("t"), false, false},
		{keys("a", "b"), table("t"), false, false},
		{keys("", ""), table("t"), false, false},
		{table("t"), keys("", ""), false, false},
		{table("t"), from(""), false, false},
		{keys("a", "b"), moved(keys("a", "b"), 3), false, false},
		{moved(from("a"), 7), moved(from("a"), 6), false, false},
		{moved(keys("a", "b"), 7), moved(from("a"), 7), true, true},
		{keys("a", "b"), of(keys("a", "b"), "u"), false, false},
		{from("a"), of(from("a"), "u"), false, false},
	} {
		if got := Meet(x.a, x.b); got != x.meet {
			t.Errorf("P10.1: Meet(%s, %s): %v", told(x.a), told(x.b), got)
		}
		if got := Within(x.a, x.b); got != x.within {
			t.Errorf("P10.1: Within(%s, %s): %v", told(x.a), told(x.b), got)
		}
	}
}

// has tells whether a key is among a range's.
func has(o api.Object, key string) bool {
	return key >= o.Lo && (o.End || key <= o.Hi)
}

// TestRangesKeyByKey asks of each pair what its two ranges have of keys that stand for all: those at the ranges' ends, and one behind each of them.
func TestRangesKeyByKey(t *testing.T) {
	var all []string
	for _, k := range someKeys() {
		all = append(all, k, k+"\x00\x00\x00")
	}
	all = append(all, "\xff\xff\xff")
	for _, a := range someRanges() {
		for _, b := range someRanges() {
			meet, within := false, true
			for _, k := range all {
				meet = meet || has(a, k) && has(b, k)
				within = within && (!has(a, k) || has(b, k))
			}
			if got := Meet(a, b); got != meet {
				t.Errorf("P10.1: Meet(%s, %s): %v", told(a), told(b), got)
			}
			if got := Within(a, b); got != within {
				t.Errorf("P10.1: Within(%s, %s): %v", told(a), told(b), got)
			}
		}
	}
}

func TestOfOneSpaceAndTable(t *testing.T) {
	for _, a := range rightObjects() {
		if !Meet(a, a) || !Within(a, a) {
			t.Errorf("P10.1: %s does not meet itself, or is not within itself", told(a))
		}
		for _, b := range rightObjects() {
			one := a.Space == b.Space && a.Table == b.Table
			if !one && (Meet(a, b) || Within(a, b)) {
				t.Errorf("P10.1: Meet or Within of %s and %s", told(a), told(b))
			}
			if one && a.Space < 2 && (!Meet(a, b) || !Within(a, b)) {
				t.Errorf("P10.1: no Meet or Within of %s and %s", told(a), told(b))
			}
			if Meet(a, b) != Meet(b, a) {
				t.Errorf("P10.1: Meet of %s and %s hangs on their order", told(a), told(b))
			}
		}
	}
}

func TestWrongObjectsMeetNothing(t *testing.T) {
	all := append(rightObjects(), wrongObjects()...)
	for _, a := range wrongObjects() {
		for _, b := range append(all, a) {
			if Meet(a, b) || Meet(b, a) {
				t.Errorf("P10.1: %s, which is not right, meets %s", told(a), told(b))
			}
			if Within(a, b) || Within(b, a) {
				t.Errorf("P10.1: Within of %s, which is not right, and %s", told(a), told(b))
			}
		}
	}
}
