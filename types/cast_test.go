package types

import (
	"math"
	"testing"

	"stile/api"
)

type castCase struct {
	v     api.Value
	of    api.Type
	want  api.Value
	state api.State
}

func tryCasts(t *testing.T, cases []castCase) {
	t.Helper()
	for _, x := range cases {
		if got, s := Cast(x.v, x.of); got != x.want || s != x.state {
			t.Errorf("P2.1: Cast(%v, %s): %v, %s, not %v, %s", x.v, Name(x.of), got, s, x.want, x.state)
		}
	}
}

func TestCastTextToText(t *testing.T) {
	full := letters(api.MaxChar)
	tryCasts(t, []castCase{
		{text("abcd"), varchar(3), text("abc"), api.Done},
		{text("abcd"), char(3), text("abc"), api.Done},
		{text("abc"), char(3), text("abc"), api.Done},
		{text("ab"), char(3), text("ab "), api.Done},
		{text("ab"), varchar(3), text("ab"), api.Done},
		{text("ab  "), varchar(3), text("ab "), api.Done},
		{text("  abcd"), varchar(3), text("  a"), api.Done},
		{text("    abcd"), char(3), text("   "), api.Done},
		{text(""), char(2), text("  "), api.Done},
		{text(""), varchar(2), text(""), api.Done},
		{text("xyz"), char(1), text("x"), api.Done},
		{text("xyz"), varchar(1), text("x"), api.Done},
		{text("\xc3\xa9"), varchar(1), text("\xc3"), api.Done},
		{text(full + "y"), char(api.MaxChar), text(full), api.Done},
		{text(full + full), varchar(api.MaxChar), text(full), api.Done},
		{text("a"), char(api.MaxChar), text("a" + blanks(99)), api.Done},
	})
}

func TestCastToText(t *testing.T) {
	tryCasts(t, []castCase{
		{num(12), char(1), null, api.TooLong},
		{num(12), varchar(1), null, api.TooLong},
		{num(12), char(2), text("12"), api.Done},
		{num(12), char(4), text("12  "), api.Done},
		{num(12), varchar(4), text("12"), api.Done},
		{num(-12), char(4), text("-12 "), api.Done},
		{num(-12), varchar(3), text("-12"), api.Done},
		{num(-12), varchar(2), null, api.TooLong},
		{num(0), varchar(1), text("0"), api.Done},
		{num(0), char(3), text("0  "), api.Done},
		{num(-1), char(1), null, api.TooLong},
		{num(math.MaxInt64), varchar(19), text("9223372036854775807"), api.Done},
		{num(math.MaxInt64), varchar(18), null, api.TooLong},
		{num(math.MinInt64), varchar(20), text("-9223372036854775808"), api.Done},
		{num(math.MinInt64), char(21), text("-9223372036854775808 "), api.Done},
		{num(math.MinInt64), char(19), null, api.TooLong},
		{boolean(true), varchar(4), text("TRUE"), api.Done},
		{boolean(true), char(4), text("TRUE"), api.Done},
		{boolean(true), char(6), text("TRUE  "), api.Done},
		{boolean(true), varchar(3), null, api.TooLong},
		{boolean(false), varchar(5), text("FALSE"), api.Done},
		{boolean(false), varchar(100), text("FALSE"), api.Done},
		{boolean(false), char(6), text("FALSE "), api.Done},
		{boolean(false), char(4), null, api.TooLong},
	})
}

func TestCastTextToNumber(t *testing.T) {
	var cases []castCase
	for s, n := range map[string]int64{
		" -07 ": -7, "0": 0, "-0": 0, "+0": 0, "+12": 12, "12": 12, "  +12": 12, "-1   ": -1, "00012": 12,
		"32767": 32767, "-32768": -32768, "+032767": 32767,
		noughts(400): 0, noughts(399) + "7": 7, "-" + noughts(398) + "12": -12, "+" + noughts(399) + "3": 3,
		blanks(200) + noughts(395) + "32767" + blanks(200): 32767, blanks(3) + "-" + noughts(395) + "32768": -32768,
	} {
		for _, of := range []api.Type{small, integer, big} {
			cases = append(cases, castCase{text(s), of, num(n), api.Done})
		}
	}
	for _, s := range []string{
		"", " ", blanks(400), "+", "-", "+-1", "--1", "++1", "- 1", "+ 1", "1 2", "1-", "1+", "a", "1a", "a1", "0x10", "1_000", "1.0", "1.", ".5", "1e3", "1,000",
		"\t1", "1\n", "\u00a01", "\x001", "1\x00", "\u0661", "\uff11", "\xff", "TRUE", "null", "''",
		noughts(401), "-" + noughts(401), noughts(400) + "1", digits(401), "+" + digits(401),
		"99999999999999999999x", digits(30) + " 1", digits(399) + "-", "/", ":", "1/", "1:",
	} {
		for _, of := range []api.Type{small, integer, big} {
			cases = append(cases, castCase{text(s), of, null, api.BadCast})
		}
	}
	for _, s := range []string{digits(20), digits(400), "-" + digits(400), " +" + digits(400) + " ", "9223372036854775808", "-9223372036854775809", "18446744073709551616", "18446744073709551617"} {
		for _, of := range []api.Type{small, integer, big} {
			cases = append(cases, castCase{text(s), of, null, api.OutOfRange})
		}
	}
	tryCasts(t, cases)
}

func TestCastTextToNumberAtTheBounds(t *testing.T) {
	tryCasts(t, []castCase{
		{text("32768"), small, null, api.OutOfRange},
		{text("-32769"), small, null, api.OutOfRange},
		{text("65536"), small, null, api.OutOfRange},
		{text("32768"), integer, num(32768), api.Done},
		{text("2147483647"), integer, num(math.MaxInt32), api.Done},
		{text("2147483648"), integer, null, api.OutOfRange},
		{text("-2147483648"), integer, num(math.MinInt32), api.Done},
		{text("-2147483649"), integer, null, api.OutOfRange},
		{text("4294967296"), integer, null, api.OutOfRange},
		{text("4294967296"), big, num(1 << 32), api.Done},
		{text("9223372036854775807"), big, num(math.MaxInt64), api.Done},
		{text("-9223372036854775808"), big, num(math.MinInt64), api.Done},
		{text("-" + noughts(381) + "9223372036854775808"), big, num(math.MinInt64), api.Done},
		{text("-" + noughts(382) + "9223372036854775808"), big, null, api.BadCast},
		{text("9223372036854775807"), small, null, api.OutOfRange},
	})
}

func TestCastTextToTruth(t *testing.T) {
	var cases []castCase
	for _, s := range []string{"true", "TRUE", "True", "tRuE", " true", "true ", "   TrUe    ", blanks(200) + "true" + blanks(196)} {
		cases = append(cases, castCase{text(s), truthful, boolean(true), api.Done})
	}
	for _, s := range []string{"false", "FALSE", "False", "fAlSe", " false", "false ", "  FalsE "} {
		cases = append(cases, castCase{text(s), truthful, boolean(false), api.Done})
	}
	for _, s := range []string{
		"", " ", "yes", "no", "t", "f", "1", "0", "tru", "truee", "true false", "fals", "falsee", "t rue", "true.", "\ttrue", "true\n", "null", "unknown", "on",
		"fal\u017fe", "FAL\u017fE", "tr\x15e", "4rue", "\x14rue", "tr5e", "\u00a0true", "true\x00", "TRU\u0045\u0301",
	} {
		cases = append(cases, castCase{text(s), truthful, null, api.BadCast})
	}
	tryCasts(t, cases)
}

func TestCastOfNumbersAndTruths(t *testing.T) {
	var cases []castCase
	for _, n := range []int64{0, 1, -1, math.MaxInt64} {
		cases = append(cases, castCase{num(n), truthful, null, api.Mismatch})
	}
	for _, b := range []bool{false, true} {
		for _, of := range []api.Type{small, integer, big} {
			cases = append(cases, castCase{boolean(b), of, null, api.Mismatch})
		}
	}
	tryCasts(t, append(cases, castCase{num(40000), small, null, api.OutOfRange}, castCase{num(40000), integer, num(40000), api.Done}))
}
