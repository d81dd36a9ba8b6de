package rowcode

import (
	"bytes"
	"math"
	"slices"
	"strings"
	"testing"

	"stile/api"
)

var null = api.Value{}

func num(n int64) api.Value    { return api.Value{Kind: api.Num, N: n} }
func text(s string) api.Value  { return api.Value{Kind: api.Text, S: s} }
func boolean(b bool) api.Value { return api.Value{Kind: api.Bool, B: b} }

// rightValues holds values of all kinds that a row may have, and those around their edges.
func rightValues() []api.Value {
	out := []api.Value{null, boolean(false), boolean(true), num(math.MinInt64), num(math.MaxInt64)}
	for _, n := range []int64{0, 1, 2, 127, 128, 255, 256, 1 << 31, 1<<32 - 1, 1 << 56, 0x0102030405060708, math.MaxInt64 - 1} {
		out = append(out, num(n), num(-n))
	}
	for _, s := range []string{"", " ", "a", "a ", " a  ", "a\t", "\x00", "\xff", "\x00\xff", "a\x00", "\xff ", "\x00 \x00 ", "\x01\x02\x03\x04", "ä"} {
		out = append(out, text(s))
	}
	for _, n := range []int{127, 128, 254, 255, 256, 257, api.MaxString - 1, api.MaxString} {
		out = append(out, text(strings.Repeat("x", n)), text(strings.Repeat(" ", n)), text(strings.Repeat("\x00", n)), text(strings.Repeat("\xff", n)), text(strings.Repeat("y", n-1)+" "))
	}
	return out
}

// wrongValues holds values of each kind that have a field beside their kind's own, and values of no kind.
func wrongValues() []api.Value {
	return []api.Value{
		{N: 1}, {N: -1}, {S: "a"}, {S: " "}, {B: true}, {N: 1, S: "a", B: true},
		{Kind: api.Num, S: "a"}, {Kind: api.Num, N: 1, S: " "}, {Kind: api.Num, N: 1, B: true},
		{Kind: api.Text, N: 1}, {Kind: api.Text, S: "a", N: -1}, {Kind: api.Text, S: "a", B: true},
		{Kind: api.Bool, N: 1}, {Kind: api.Bool, B: true, N: 1}, {Kind: api.Bool, B: true, S: "a"},
		{Kind: 4}, {Kind: -1}, {Kind: 4, B: true}, {Kind: 5, N: 1}, {Kind: 256}, {Kind: math.MaxInt}, {Kind: math.MinInt},
	}
}

// rows holds rows of none to 12 values.
func rows() []api.Row {
	values := rightValues()
	few := []api.Value{null, num(-1), num(1), text(""), text("a "), text("\x00\xff"), boolean(false), boolean(true)}
	out := []api.Row{nil, {}}
	for _, v := range values {
		out = append(out, api.Row{v}, slices.Repeat(api.Row{v}, api.MaxColumns))
		for _, f := range few {
			out = append(out, api.Row{v, f}, api.Row{f, v, f})
		}
	}
	for n := range api.MaxColumns + 1 {
		for from := range len(values) - n {
			out = append(out, slices.Clone(values[from:from+n]))
		}
	}
	return out
}

func encoded(t *testing.T, r api.Row) []byte {
	t.Helper()
	b, e := Encode(r)
	if e != api.OK {
		t.Fatalf("P4.1: Encode of %v: %d", r, e)
	}
	return b
}

func TestEncodeTellsTheForm(t *testing.T) {
	for _, c := range []struct {
		row  api.Row
		form string
	}{
		{nil, "\x00"},
		{api.Row{}, "\x00"},
		{api.Row{null}, "\x01\x00"},
		{api.Row{num(1), null}, "\x02\x01\x01\x00\x00\x00\x00\x00\x00\x00\x00"},
		{api.Row{num(0)}, "\x01\x01\x00\x00\x00\x00\x00\x00\x00\x00"},
		{api.Row{num(-1)}, "\x01\x01\xff\xff\xff\xff\xff\xff\xff\xff"},
		{api.Row{num(0x0102030405060708)}, "\x01\x01\x08\x07\x06\x05\x04\x03\x02\x01"},
		{api.Row{num(math.MinInt64)}, "\x01\x01\x00\x00\x00\x00\x00\x00\x00\x80"},
		{api.Row{num(math.MaxInt64)}, "\x01\x01\xff\xff\xff\xff\xff\xff\xff\x7f"},
		{api.Row{text("")}, "\x01\x02\x00\x00"},
		{api.Row{text(" a  ")}, "\x01\x02\x04\x00 a  "},
		{api.Row{text("\x00\xff\x00")}, "\x01\x02\x03\x00\x00\xff\x00"},
		{api.Row{text(strings.Repeat("x", 255))}, "\x01\x02\xff\x00" + strings.Repeat("x", 255)},
		{api.Row{text(strings.Repeat("x", 256))}, "\x01\x02\x00\x01" + strings.Repeat("x", 256)},
		{api.Row{text(strings.Repeat(" ", 400))}, "\x01\x02\x90\x01" + strings.Repeat(" ", 400)},
		{api.Row{boolean(false)}, "\x01\x03"},
		{api.Row{boolean(true)}, "\x01\x04"},
		{api.Row{boolean(true), text("b"), null, num(2), boolean(false)}, "\x05\x04\x02\x01\x00b\x00\x01\x02\x00\x00\x00\x00\x00\x00\x00\x03"},
		{make(api.Row, 12), "\x0c" + strings.Repeat("\x00", 12)},
	} {
		if b := encoded(t, c.row); string(b) != c.form {
			t.Errorf("P4.1: Encode of %v: %q, not %q", c.row, b, c.form)
		}
	}
}

func refuseRow(t *testing.T, r api.Row, want api.Errno) {
	t.Helper()
	if b, e := Encode(r); len(b) != 0 || e != want {
		t.Errorf("P4.1: Encode of %v: %v, %d, not %d alone", r, b, e, want)
	}
}

func TestEncodeOfRowsThatAreTooLong(t *testing.T) {
	for _, n := range []int{13, 14, 255, 256, 257, 268, 1000} {
		refuseRow(t, make(api.Row, n), api.ErrRowLong)
	}
	for _, v := range rightValues() {
		refuseRow(t, slices.Repeat(api.Row{v}, 13), api.ErrRowLong)
	}
	for _, n := range []int{401, 402, 65535, 65536, 65537, 65936} {
		for _, sign := range []string{"x", " ", "\x00", "\xff"} {
			long := text(strings.Repeat(sign, n))
			refuseRow(t, api.Row{long}, api.ErrRowLong)
			refuseRow(t, append(make(api.Row, 11), long), api.ErrRowLong)
			refuseRow(t, append(make(api.Row, 12), long), api.ErrRowLong)
		}
	}
}

func TestEncodeOfValuesThatAreNotRight(t *testing.T) {
	for _, v := range wrongValues() {
		refuseRow(t, api.Row{v}, api.ErrRowForm)
		refuseRow(t, api.Row{v, num(1)}, api.ErrRowForm)
		refuseRow(t, append(make(api.Row, 11), v), api.ErrRowForm)
		refuseRow(t, api.Row{text(strings.Repeat("x", 400)), v}, api.ErrRowForm)
	}
}

// W1 names ErrRowLong first, wherever in the row each of both faults stands.
func TestEncodeOfRowsWithBothFaults(t *testing.T) {
	long := strings.Repeat("x", 401)
	for _, v := range wrongValues() {
		refuseRow(t, append(make(api.Row, 12), v), api.ErrRowLong)
		refuseRow(t, append(api.Row{v}, make(api.Row, 12)...), api.ErrRowLong)
		refuseRow(t, api.Row{v, text(long)}, api.ErrRowLong)
		refuseRow(t, api.Row{text(long), v}, api.ErrRowLong)
	}
	refuseRow(t, api.Row{{Kind: api.Text, S: long, N: 1}}, api.ErrRowLong)
	// What is no text has no text's length: it is but not right.
	for _, kind := range []api.Kind{api.Null, api.Num, api.Bool, 4, -1} {
		refuseRow(t, api.Row{{Kind: kind, S: long}}, api.ErrRowForm)
	}
}

func TestEncodeLeavesTheRowAsItIs(t *testing.T) {
	row := append(make(api.Row, 0, 4), text("a  "), num(3), null, text("behind"))
	kept := slices.Clone(row)
	first := encoded(t, row[:3])
	second := encoded(t, row[:3])
	if !slices.Equal(row, kept) {
		t.Errorf("P4.1: Encode changed its row: %v, not %v", row, kept)
	}
	clear(first)
	if third := encoded(t, row[:3]); !bytes.Equal(second, third) {
		t.Errorf("P4.1: two answers share memory: %v, not %v", second, third)
	}
}
