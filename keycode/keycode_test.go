package keycode

import (
	"cmp"
	"math"
	"slices"
	"strings"
	"testing"

	"stile/api"
	"stile/value"
)

var null = api.Value{}

func num(n int64) api.Value    { return api.Value{Kind: api.Num, N: n} }
func text(s string) api.Value  { return api.Value{Kind: api.Text, S: s} }
func boolean(b bool) api.Value { return api.Value{Kind: api.Bool, B: b} }

// rightValues holds values of all kinds, and those around their edges.
func rightValues() []api.Value {
	out := []api.Value{null, boolean(false), boolean(true)}
	for _, n := range []int64{0, 1, 2, 127, 128, 255, 256, 1 << 31, 1<<32 - 1, 1 << 56, math.MaxInt64 - 1, math.MaxInt64} {
		out = append(out, num(n), num(-n))
	}
	out = append(out, num(math.MinInt64), num(math.MinInt64+1))
	for _, s := range rightTexts() {
		out = append(out, text(s))
	}
	return out
}

// rightTexts holds texts whose bytes are those that a code gives a meaning of its own, at their beginnings, their ends and within.
func rightTexts() []string {
	out := []string{"", "a", "b", "abc", "a b", "\t", "a\t", "ä", strings.Repeat("x", api.MaxString), strings.Repeat("\x00", api.MaxString), strings.Repeat(" ", api.MaxString)}
	signs := []string{"\x00", "\x01", "\x04", " ", "!", "\xfe", "\xff"}
	for _, a := range signs {
		out = append(out, a, "a"+a, a+"a")
		for _, b := range signs {
			out = append(out, a+b, a+b+" ", "a"+a+b)
		}
	}
	return out
}

// rows holds lists of up to two of the values, and some longer ones.
func rows() []api.Row {
	values := rightValues()
	few := []api.Value{null, num(math.MinInt64), num(-1), num(0), num(1), num(math.MaxInt64), text(""), text(" "), text("\x00"), text("a"), text("a  "), text("a\x00"), text("a\xff"), text("\xff"), boolean(false), boolean(true)}
	out := []api.Row{{}, {null, null, null}, {num(1), text("a"), boolean(true), null}, {num(1), text("a "), boolean(true), null, num(0)}}
	for _, v := range values {
		out = append(out, api.Row{v})
		for _, f := range few {
			out = append(out, api.Row{v, f})
		}
	}
	return out
}

// orderRows is how lists stand by value.Order: at the first place where they differ, else by their lengths.
func orderRows(a, b api.Row) int {
	for i := range min(len(a), len(b)) {
		if o := value.Order(a[i], b[i]); o != 0 {
			return o
		}
	}
	return cmp.Compare(len(a), len(b))
}

func TestEncodeTellsTheCode(t *testing.T) {
	for _, c := range []struct {
		row  api.Row
		code string
	}{
		{nil, ""},
		{api.Row{}, ""},
		{api.Row{null}, "\x01"},
		{api.Row{null, null}, "\x01\x01"},
		{api.Row{num(-1)}, "\x02\x7f\xff\xff\xff\xff\xff\xff\xff"},
		{api.Row{num(0)}, "\x02\x80\x00\x00\x00\x00\x00\x00\x00"},
		{api.Row{num(1)}, "\x02\x80\x00\x00\x00\x00\x00\x00\x01"},
		{api.Row{num(0x0102030405060708)}, "\x02\x81\x02\x03\x04\x05\x06\x07\x08"},
		{api.Row{num(math.MinInt64)}, "\x02\x00\x00\x00\x00\x00\x00\x00\x00"},
		{api.Row{num(math.MaxInt64)}, "\x02\xff\xff\xff\xff\xff\xff\xff\xff"},
		{api.Row{text("")}, "\x03\x00\x00"},
		{api.Row{text("   ")}, "\x03\x00\x00"},
		{api.Row{text("a")}, "\x03a\x00\x00"},
		{api.Row{text("a ")}, "\x03a\x00\x00"},
		{api.Row{text(" a b  ")}, "\x03 a b\x00\x00"},
		{api.Row{text("a\t")}, "\x03a\t\x00\x00"},
		{api.Row{text("\x00")}, "\x03\x00\xff\x00\x00"},
		{api.Row{text("\x00a\x00")}, "\x03\x00\xffa\x00\xff\x00\x00"},
		{api.Row{text(" \x00 ")}, "\x03 \x00\xff\x00\x00"},
		{api.Row{text("\x00\x00")}, "\x03\x00\xff\x00\xff\x00\x00"},
		{api.Row{text("\xff")}, "\x03\xff\x00\x00"},
		{api.Row{text("\x00\xff")}, "\x03\x00\xff\xff\x00\x00"},
		{api.Row{text("ä")}, "\x03\xc3\xa4\x00\x00"},
		{api.Row{boolean(false)}, "\x04\x00"},
		{api.Row{boolean(true)}, "\x04\x01"},
		{api.Row{boolean(true), text("b"), null, num(2)}, "\x04\x01\x03b\x00\x00\x01\x02\x80\x00\x00\x00\x00\x00\x00\x02"},
	} {
		if code := Encode(c.row); code != c.code {
			t.Errorf("P3.1: Encode of %v: %q, not %q", c.row, code, c.code)
		}
	}
}

func TestEncodeLeavesTheRowAsItIs(t *testing.T) {
	row := api.Row{text("a  "), num(3), null}
	kept := slices.Clone(row)
	Encode(row)
	if !slices.Equal(row, kept) {
		t.Errorf("P3.1: Encode changed its row: %v, not %v", row, kept)
	}
}

func TestCodesStandAsTheirRows(t *testing.T) {
	all := rows()
	codes := make([]string, len(all))
	for i, r := range all {
		codes[i] = Encode(r)
	}
	for i, a := range all {
		for j, b := range all {
			order := orderRows(a, b)
			if got := strings.Compare(codes[i], codes[j]); got != order {
				t.Fatalf("P3.2: the codes of %v and %v stand %d, not %d", a, b, got, order)
			}
			if (codes[i] == codes[j]) != (order == 0) {
				t.Fatalf("P3.3: one code of %v and %v: %v", a, b, codes[i] == codes[j])
			}
		}
	}
}

func TestAbove(t *testing.T) {
	for s, above := range map[string]string{"": "\xff", "ab": "ab\xff", "\xff": "\xff\xff", "\x03a\x00\x00": "\x03a\x00\x00\xff"} {
		if got := Above(s); got != above {
			t.Errorf("P3.1: Above %q: %q, not %q", s, got, above)
		}
	}
}

func TestAbovePartsTheCodes(t *testing.T) {
	var codes []string
	for _, r := range rows() {
		codes = append(codes, Encode(r))
	}
	for _, v := range rightValues() {
		s := Encode(api.Row{v})
		above := Above(s)
		for _, c := range codes {
			if strings.HasPrefix(c, s) && c > above {
				t.Fatalf("P3.1: %q begins with %q, and is above Above", c, s)
			}
			if !strings.HasPrefix(c, s) && c > s && c <= above {
				t.Fatalf("P3.1: %q is above %q, begins otherwise, and is not above Above", c, s)
			}
		}
	}
	for _, c := range codes {
		if c > Above("") {
			t.Fatalf("P3.1: %q is above all codes", c)
		}
	}
}
