package lex

import (
	"slices"
	"strings"
	"testing"

	"stile/api"
)

func word(s string, at int) api.Token { return api.Token{Kind: api.Word, S: s, At: at} }

func number(n int64, at int) api.Token { return api.Token{Kind: api.Number, N: n, At: at} }

func quoted(s string, at int) api.Token { return api.Token{Kind: api.String, S: s, At: at} }

func sign(s string, at int) api.Token { return api.Token{Kind: api.Sign, S: s, At: at} }

// reads asks for a text's tokens, their places, and that they are read again as the same ones.
func reads(t *testing.T, text string, want ...api.Token) {
	t.Helper()
	is, state := Scan(text)
	if state != api.Done || !slices.Equal(is, want) {
		t.Errorf("P13.1: X1: %q: %v, %q, not %v", text, is, state, want)
		return
	}
	placed(t, text, is)
	again(t, is)
}

func refuses(t *testing.T, text string, want api.State) {
	t.Helper()
	is, state := Scan(text)
	if state != want {
		t.Errorf("P13.1: X1: %.60q (%d bytes): %q, not %q", text, len(text), state, want)
	}
	if len(is) != 0 {
		t.Errorf("P13.1: X1: %.60q: %d tokens beside %q", text, len(is), state)
	}
}

func TestExamples(t *testing.T) {
	reads(t, "select 'it''s'-- x", word("select", 0), quoted("it's", 7))
	reads(t, "<=>", sign("<=", 0), sign(">", 2))
	refuses(t, "1a", api.Syntax)
	refuses(t, "99999999999999999999", api.OutOfRange)
	refuses(t, "'a", api.Syntax)
}

func TestNoTokens(t *testing.T) {
	for _, text := range []string{
		"", " ", "\t", "\n", "\r", " \t\r\n ",
		"--", "---", "-- ", "--\n", "-- a", "-- a\n", "\n-- 'a", " -- @|\x00\xff\x7f1a\n\t", "--a\n--b\n--c", "--a--b", "--\r", "--a\rb",
		strings.Repeat("--\n", 600),
	} {
		reads(t, text)
	}
}

func TestComments(t *testing.T) {
	reads(t, "a--b", word("a", 0))
	reads(t, "a--b\nc", word("a", 0), word("c", 5))
	reads(t, "a--b\rc\nd", word("a", 0), word("d", 7))
	reads(t, "a--'\n'b'", word("a", 0), quoted("b", 5))
	reads(t, "1--a\n2", number(1, 0), number(2, 5))
	reads(t, "'a'--'b'", quoted("a", 0))
	reads(t, "'a'--\n'b'", quoted("a", 0), quoted("b", 6))
	reads(t, "'--'", quoted("--", 0))
	reads(t, "'a--b'c", quoted("a--b", 0), word("c", 6))
	reads(t, "<--\n=", sign("<", 0), sign("=", 4))
	reads(t, "--\n\n--\nx", word("x", 7))
}

func TestDashes(t *testing.T) {
	reads(t, "-", sign("-", 0))
	reads(t, "- -", sign("-", 0), sign("-", 2))
	reads(t, "-\n-", sign("-", 0), sign("-", 2))
	reads(t, "- --", sign("-", 0))
	reads(t, "- ---1\n-1", sign("-", 0), sign("-", 7), number(1, 8))
	reads(t, "---\n-", sign("-", 4))
	reads(t, "-1", sign("-", 0), number(1, 1))
	reads(t, "a-b", word("a", 0), sign("-", 1), word("b", 2))
	reads(t, "+-+", sign("+", 0), sign("-", 1), sign("+", 2))
}

func TestWords(t *testing.T) {
	for text, s := range map[string]string{
		"a": "a", "z": "z", "A": "a", "Z": "z", "_": "_", "__": "__",
		"SELECT": "select", "sElEcT": "select", "a1": "a1", "A_1": "a_1", "_0": "_0", "_a9Z": "_a9z", "a00": "a00",
		"abcdefghijklmnopqrstuvwxyz":       "abcdefghijklmnopqrstuvwxyz",
		"ABCDEFGHIJKLMNOPQRSTUVWXYZ":       "abcdefghijklmnopqrstuvwxyz",
		"x_0123456789":                     "x_0123456789",
		"ABCDEFGHIJKLMNOPQRSTUVWXYZ_12345": "abcdefghijklmnopqrstuvwxyz_12345",
	} {
		reads(t, text, word(s, 0))
		reads(t, " "+text+";", word(s, 1), sign(";", 1+len(text)))
	}
	reads(t, "A.b'C'", word("a", 0), sign(".", 1), word("b", 2), quoted("C", 3))
	reads(t, "n'x'", word("n", 0), quoted("x", 1))
	reads(t, "a\tB\rc", word("a", 0), word("b", 2), word("c", 4))
}

func TestNumbers(t *testing.T) {
	for text, n := range map[string]int64{
		"0": 0, "1": 1, "9": 9, "10": 10, "007": 7, "00": 0, "0123456789": 123456789,
		"9223372036854775806":                      1<<63 - 2,
		"9223372036854775807":                      1<<63 - 1,
		"00000000000000000009223372036854775807":   1<<63 - 1,
		strings.Repeat("0", api.MaxText-1):         0,
		strings.Repeat("0", api.MaxText-3) + "10":  10,
		strings.Repeat("0", api.MaxText-3) + "7\t": 7,
	} {
		reads(t, text, number(n, 0))
		reads(t, "\n"+text, number(n, 1))
	}
	reads(t, "1.5", number(1, 0), sign(".", 1), number(5, 2))
	reads(t, "1'a'2", number(1, 0), quoted("a", 1), number(2, 4))
	reads(t, "1 2\t03", number(1, 0), number(2, 2), number(3, 4))
	reads(t, "1 a", number(1, 0), word("a", 2))
	reads(t, "(1)", sign("(", 0), number(1, 1), sign(")", 2))
	reads(t, "-9223372036854775807", sign("-", 0), number(1<<63-1, 1))
}

func TestNumbersThatAreNone(t *testing.T) {
	for _, text := range []string{"1a", "1Z", "1_", "0x1", "1e5", "007a", "1a1", "12_000", "9223372036854775807a", "9223372036854775807_", "1_@", "1a 99999999999999999999"} {
		refuses(t, text, api.Syntax)
	}
	for _, text := range []string{
		"9223372036854775808", "9223372036854775810", "9999999999999999999", "18446744073709551615", "18446744073709551616", "18446744073709551617", "36893488147419103232",
		"009223372036854775808", "-9223372036854775808", "10000000000000000000",
		strings.Repeat("9", api.MaxText), strings.Repeat("0", api.MaxText-19) + "9223372036854775808",
		// Where both could be told, a number that is too great comes ahead of what follows it.
		"9223372036854775808a", "9223372036854775808_", "99999999999999999999Z", "9223372036854775808@", "9223372036854775808'",
	} {
		refuses(t, text, api.OutOfRange)
	}
}

func TestQuoted(t *testing.T) {
	for text, s := range map[string]string{
		"''": "", "' '": " ", "'a'": "a", "'A'": "A", "'a b'": "a b", "'1'": "1",
		"''''": "'", "''''''": "''", "'a'''": "a'", "'''a'": "'a", "'''a'''": "'a'", "'a''b'": "a'b", "'a''''b'": "a''b", "'it''s o''clock'": "it's o'clock",
		"'-- a'": "-- a", "'\"'": "\"", "'\\'": "\\", "'%_'": "%_", "'<='": "<=", "' a '": " a ", "'~'": "~", "'@|#'": "@|#",
	} {
		reads(t, text, quoted(s, 0))
		reads(t, "\r"+text+",", quoted(s, 1), sign(",", 1+len(text)))
	}
	reads(t, "'a' 'b'", quoted("a", 0), quoted("b", 4))
	reads(t, "'a'\n''", quoted("a", 0), quoted("", 4))
	reads(t, "'a'b", quoted("a", 0), word("b", 3))
	reads(t, "'a'1", quoted("a", 0), number(1, 3))
	reads(t, "'a'||''", quoted("a", 0), sign("||", 3), quoted("", 5))
}

func TestQuotedThatIsNone(t *testing.T) {
	for _, text := range []string{"'", "'''", "'''''", "'a", "'a''", "'a''b", "a'", "1'", "'a'b'", "'a' '", "'a'''b'''", "'-- a", "'a\n", "'\n'", "'a\tb'", "'\x00'", "'\x1f'", "'\x7f'", "'\x80'", "'\xff'", "'\u00e9'", "''\x01", "'''\r'", "'a''\x7f'''"} {
		refuses(t, text, api.Syntax)
	}
}

func TestEachSign(t *testing.T) {
	all := strings.Fields("<= >= <> || ( ) , . ; = < > + - * /")
	for _, s := range all {
		reads(t, s, sign(s, 0))
		reads(t, "a"+s+"b", word("a", 0), sign(s, 1), word("b", 1+len(s)))
		reads(t, "1"+s+"2", number(1, 0), sign(s, 1), number(2, 1+len(s)))
		reads(t, "'"+s+"'"+s+"\n", quoted(s, 0), sign(s, 2+len(s)))
		for _, other := range all {
			reads(t, s+" "+other, sign(s, 0), sign(other, 1+len(s)))
		}
	}
}

func TestLongestSign(t *testing.T) {
	for text, want := range map[string]string{
		"<=>": "<= >", "<>=": "<> =", "<<=": "< <=", "<<>": "< <>", "<>>": "<> >", ">=<": ">= <", ">>=": "> >=", "><": "> <", "=<": "= <", "=>": "= >", "==": "= =", "<==": "<= =", "<=<>>=": "<= <> >=",
		"||||": "|| ||", "=<>=": "= <> =", "**": "* *", "(*)": "( * )", "..": ". .", "/*": "/ *", ";;": "; ;", "((": "( (", "+-*/": "+ - * /",
	} {
		var tokens []api.Token
		at := 0
		for _, s := range strings.Fields(want) {
			tokens = append(tokens, sign(s, at))
			at += len(s)
		}
		reads(t, text, tokens...)
	}
	reads(t, "< = > =", sign("<", 0), sign("=", 2), sign(">", 4), sign("=", 6))
	for _, text := range []string{"|", "a|b", "a | b", "|||", "| |", "|\n|", "<|", "|="} {
		refuses(t, text, api.Syntax)
	}
}

// Each byte alone is nothing, a token, or an error; so it is behind others.
func TestEachByte(t *testing.T) {
	const blanks, letters, digits, signBytes = "\t\n\r ", "abcdefghijklmnopqrstuvwxyzABCDEFGHIJKLMNOPQRSTUVWXYZ_", "0123456789", "(),.;=<>+-*/"
	for i := range 256 {
		b := string([]byte{byte(i)})
		small := strings.ToLower(b)
		switch {
		case strings.Contains(blanks, b):
			reads(t, b)
			reads(t, "a"+b+"1"+b, word("a", 0), number(1, 2))
		case strings.Contains(letters, b):
			reads(t, b, word(small, 0))
			reads(t, "a"+b+"1"+b, word("a"+small+"1"+small, 0))
			refuses(t, "1"+b, api.Syntax)
		case strings.Contains(digits, b):
			reads(t, b, number(int64(i-'0'), 0))
			reads(t, "a"+b+"1"+b, word("a"+b+"1"+b, 0))
			reads(t, "1"+b, number(int64(10+i-'0'), 0))
		case strings.Contains(signBytes, b):
			reads(t, b, sign(b, 0))
			reads(t, "a"+b+"1"+b, word("a", 0), sign(b, 1), number(1, 2), sign(b, 3))
		default: // also a single ' and a single |
			for _, text := range []string{b, "a" + b, "1" + b, b + "a", " " + b, "a " + b, "--\n" + b, "'a' " + b, "+" + b, b + " 1"} {
				refuses(t, text, api.Syntax)
			}
		}
		if b != "\n" {
			reads(t, "a--"+b+"\n1", word("a", 0), number(1, 5))
		}
		if inText := "'a" + b + "b'"; i < 32 || i > 126 || b == "'" {
			refuses(t, inText, api.Syntax)
		} else {
			reads(t, inText, quoted("a"+b+"b", 0))
		}
	}
}

// What stands beside an error may be right or wrong: the first one ends it.
func TestFirstErrorEndsIt(t *testing.T) {
	wrong := map[string]api.State{
		"@": api.Syntax, "1a": api.Syntax, "'\x01'": api.Syntax, strings.Repeat("b", 33): api.Syntax,
		"9223372036854775808": api.OutOfRange, "9223372036854775808_": api.OutOfRange,
		"'" + strings.Repeat("c", 401) + "'": api.TooLong,
	}
	for first, state := range wrong {
		refuses(t, first, state)
		refuses(t, "select a , 1 "+first, state)
		refuses(t, first+" from t", state)
		refuses(t, first+" '", state)
		refuses(t, first+" "+strings.Repeat("(", 601), state)
		for second := range wrong {
			refuses(t, first+" "+second, state)
		}
	}
}

// What is handed out is the caller's own.
func TestHandedOut(t *testing.T) {
	const text = "Select 'it''s', 007 <= x"
	want := []api.Token{word("select", 0), quoted("it's", 7), sign(",", 14), number(7, 16), sign("<=", 20), word("x", 23)}
	first, _ := Scan(text)
	other, _ := Scan(text)
	first = first[:cap(first)]
	for i := range first {
		first[i] = api.Token{Kind: api.Sign, S: "?", N: -1, At: -1}
	}
	if !slices.Equal(other, want) {
		t.Errorf("P13.1: %v, not %v, once another answer was written into", other, want)
	}
	_ = append(other[:1], other[3:]...)
	reads(t, text, want...)
}

// P2: what was read or refused ahead does not count.
func TestOneBehindAnother(t *testing.T) {
	for range 3 {
		reads(t, "a", word("a", 0))
		refuses(t, "a '", api.Syntax)
		reads(t, "")
		refuses(t, strings.Repeat("a ", 601), api.TooLarge)
		reads(t, "b 1", word("b", 0), number(1, 2))
	}
}
