package types

import (
	"math"
	"testing"

	"stile/api"
)

func TestAssignNumbers(t *testing.T) {
	for _, x := range []struct {
		of          api.Type
		least, most int64
	}{
		{small, -32768, 32767},
		{integer, -2147483648, 2147483647},
		{big, math.MinInt64, math.MaxInt64},
	} {
		for _, v := range rightValues() {
			if v.Kind != api.Num {
				continue
			}
			want, state := v, api.Done
			if v.N < x.least || v.N > x.most {
				want, state = null, api.OutOfRange
			}
			if got, s := Assign(v, x.of); got != want || s != state {
				t.Errorf("P2.1: Assign(%d, %s): %v, %s", v.N, Name(x.of), got, s)
			}
			if got, s := Cast(v, x.of); got != want || s != state {
				t.Errorf("P2.1: Cast(%d, %s): %v, %s", v.N, Name(x.of), got, s)
			}
		}
	}
}

func TestBoundsOfNumbers(t *testing.T) {
	for _, x := range []struct {
		n     int64
		of    api.Type
		state api.State
	}{
		{32767, small, api.Done},
		{32768, small, api.OutOfRange},
		{-32768, small, api.Done},
		{-32769, small, api.OutOfRange},
		{65535, small, api.OutOfRange},
		{65536, small, api.OutOfRange},
		{2147483647, integer, api.Done},
		{2147483648, integer, api.OutOfRange},
		{-2147483648, integer, api.Done},
		{-2147483649, integer, api.OutOfRange},
		{1 << 32, integer, api.OutOfRange},
		{math.MaxInt64, small, api.OutOfRange},
		{math.MinInt64, integer, api.OutOfRange},
		{math.MaxInt64, big, api.Done},
		{math.MinInt64, big, api.Done},
		{0, small, api.Done},
	} {
		want := null
		if x.state == api.Done {
			want = num(x.n)
		}
		if got, s := Assign(num(x.n), x.of); got != want || s != x.state {
			t.Errorf("P2.1: Assign(%d, %s): %v, %s", x.n, Name(x.of), got, s)
		}
	}
}

func TestAssignTexts(t *testing.T) {
	full := letters(api.MaxChar)
	for _, x := range []struct {
		s    string
		of   api.Type
		want string
		long bool
	}{
		{s: "ab   ", of: char(3), want: "ab "},
		{s: "ab   ", of: varchar(3), want: "ab "},
		{s: "abcd", of: varchar(3), long: true},
		{s: "abcd", of: char(3), long: true},
		{s: "abc", of: char(3), want: "abc"},
		{s: "abc", of: varchar(3), want: "abc"},
		{s: "abc ", of: char(3), want: "abc"},
		{s: "abc ", of: varchar(3), want: "abc"},
		{s: "abc  d", of: char(3), long: true},
		{s: "abc  d", of: varchar(3), long: true},
		{s: "ab  d", of: varchar(3), long: true},
		{s: "ab ", of: varchar(3), want: "ab "},
		{s: "ab", of: varchar(3), want: "ab"},
		{s: "ab", of: char(3), want: "ab "},
		{s: "a", of: char(3), want: "a  "},
		{s: "", of: char(3), want: "   "},
		{s: "", of: varchar(3), want: ""},
		{s: "     ", of: char(3), want: "   "},
		{s: "     ", of: varchar(3), want: "   "},
		{s: " abc", of: varchar(3), long: true},
		{s: "    a", of: char(3), long: true},
		{s: "abc\t", of: varchar(3), long: true},
		{s: "abc\n ", of: char(3), long: true},
		{s: "abc\x00", of: char(3), long: true},
		{s: "abc\u00a0", of: varchar(3), long: true},
		{s: "\xc3\xa9", of: char(1), long: true}, // one letter, but two bytes
		{s: "\xc3\xa9", of: char(3), want: "\xc3\xa9 "},
		{s: "", of: char(1), want: " "},
		{s: "a", of: char(1), want: "a"},
		{s: "a", of: varchar(1), want: "a"},
		{s: "ab", of: char(1), long: true},
		{s: "ab", of: varchar(1), long: true},
		{s: full, of: char(api.MaxChar), want: full},
		{s: full, of: varchar(api.MaxChar), want: full},
		{s: full + blanks(300), of: varchar(api.MaxChar), want: full},
		{s: full + blanks(300), of: char(api.MaxChar), want: full},
		{s: full + "x", of: char(api.MaxChar), long: true},
		{s: full + blanks(299) + "x", of: varchar(api.MaxChar), long: true},
		{s: "", of: char(api.MaxChar), want: blanks(100)},
		{s: "TRUE", of: varchar(4), want: "TRUE"},
	} {
		want, state := text(x.want), api.Done
		if x.long {
			want, state = null, api.TooLong
		}
		if got, s := Assign(text(x.s), x.of); got != want || s != state {
			t.Errorf("P2.1: Assign(%q, %s): %q, %s", x.s, Name(x.of), got.S, s)
		}
	}
}

func TestAssignTruths(t *testing.T) {
	for _, v := range []api.Value{boolean(false), boolean(true)} {
		if got, s := Assign(v, truthful); got != v || s != api.Done {
			t.Errorf("P2.1: Assign(%v, boolean): %v, %s", v, got, s)
		}
		if got, s := Cast(v, truthful); got != v || s != api.Done {
			t.Errorf("P2.1: Cast(%v, boolean): %v, %s", v, got, s)
		}
	}
}
