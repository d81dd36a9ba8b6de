package lex

import (
	"strings"
	"testing"

	"stile/api"
)

func TestLengthOfWords(t *testing.T) {
	longest := strings.Repeat("Ab_4", 8)
	reads(t, longest, word(strings.ToLower(longest), 0))
	reads(t, "x "+longest+"-1", word("x", 0), word(strings.ToLower(longest), 2), sign("-", 34), number(1, 35))
	for _, more := range []string{"a", "Z", "_", "0"} {
		refuses(t, longest+more, api.Syntax)
		refuses(t, "x,"+longest+more+" y", api.Syntax)
	}
	refuses(t, strings.Repeat("_", 33), api.Syntax)
	refuses(t, strings.Repeat("a", api.MaxText), api.Syntax)
}

func TestLengthOfQuoted(t *testing.T) {
	quote := func(s string) string { return "'" + strings.ReplaceAll(s, "'", "''") + "'" }
	for _, piece := range []string{"a", " ", "'", "a'", "'b", "--", "it's "} {
		all := strings.Repeat(piece, 401)
		for _, n := range []int{1, 398, 399, 400} {
			reads(t, quote(all[:n]), quoted(all[:n], 0))
		}
		refuses(t, quote(all[:401]), api.TooLong)
		refuses(t, "a = "+quote(all[:401])+";", api.TooLong)
	}
	long := strings.Repeat("a", 401)
	refuses(t, "'"+strings.Repeat("a", api.MaxText-2)+"'", api.TooLong)
	refuses(t, strings.Repeat("'", api.MaxText), api.TooLong)
	// Where both could be told, that it is no text comes ahead of its length.
	for _, text := range []string{"'" + long, "'" + long + "''", "'\n" + long + "'", "'" + long + "\x7f'", "'" + long + "\x80" + long + "'", "'''" + long + "\x00'", "'" + long + "\n"} {
		refuses(t, text, api.Syntax)
	}
	refuses(t, "'"+long+"'@", api.TooLong)
	refuses(t, "'"+long+"'\n", api.TooLong)
}

func TestLengthOfTheText(t *testing.T) {
	fill := func(s string, n int) string { return s + strings.Repeat(" ", n-len(s)) }
	reads(t, strings.Repeat(" ", 2000))
	reads(t, "--"+strings.Repeat("-", 1998))
	reads(t, fill("a", 2000), word("a", 0))
	reads(t, strings.Repeat("\n", 1999)+"b", word("b", 1999))
	reads(t, strings.Repeat("\t", 1998)+"<=", sign("<=", 1998))
	reads(t, strings.Repeat("\r", 1997)+"'c'", quoted("c", 1997))
	reads(t, strings.Repeat("0", 1999)+"8", number(8, 0))
	for _, start := range []string{"", "a", "@", "1a", "'", "9223372036854775808", "--", "'" + strings.Repeat("a", 401) + "'", strings.Repeat("a", 33), strings.Repeat("(", 601)} {
		for _, n := range []int{2001, 2002, 5000, 1 << 20} {
			refuses(t, fill(start, n), api.TooLarge)
		}
	}
	refuses(t, fill("@", 2000), api.Syntax)
}

// sixHundred holds texts of so many tokens, short enough that more fits behind them.
func sixHundred() []string {
	return []string{
		strings.Repeat("(", 600),
		strings.Repeat("a ", 600),
		strings.Repeat("1\n", 600),
		strings.Repeat("''\t", 500) + strings.Repeat("=", 100),
		strings.Repeat("a+1;", 150),
		strings.Repeat("<=", 600),
		"--(\n" + strings.Repeat("a,", 300) + "--b\n",
	}
}

func TestCountOfTokens(t *testing.T) {
	for _, text := range sixHundred() {
		for _, behind := range []string{"", " \t\r\n", "\n-- x", "\n--", "\n-- 1a\n \n-- '", " --@\n"} {
			is, state := Scan(text + behind)
			if state != api.Done || len(is) != 600 {
				t.Errorf("P13.1: X1: 600 tokens (%.20q..) and %q: %d tokens, %q", text, behind, len(is), state)
				continue
			}
			placed(t, text+behind, is)
			again(t, is)
		}
	}
}

// The 601st is told as one too many as soon as it is a token, whatever follows it; if it is none, that is told.
func TestOneTokenTooMany(t *testing.T) {
	for _, text := range sixHundred() {
		for _, one := range []string{"a", "1", "''", "(", "-", "||", "9223372036854775807", "select", strings.Repeat("a", 32)} {
			refuses(t, text+" "+one, api.TooLarge)
			refuses(t, text+" "+one+" ", api.TooLarge)
			refuses(t, text+" "+one+" a", api.TooLarge)
			for _, wrong := range []string{"@", "'", "1a", "9223372036854775808"} {
				refuses(t, text+" "+one+" "+wrong, api.TooLarge)
			}
		}
		for one, state := range map[string]api.State{
			"@": api.Syntax, "|": api.Syntax, "\x00": api.Syntax, "\xff": api.Syntax, "1a": api.Syntax, "1_": api.Syntax, "'": api.Syntax, "'a": api.Syntax, "'\n'": api.Syntax,
			strings.Repeat("a", 33): api.Syntax, "9223372036854775808": api.OutOfRange, "9223372036854775808a": api.OutOfRange,
		} {
			refuses(t, text+" "+one, state)
			refuses(t, text+" "+one+" a", state)
		}
		refuses(t, text+" 1@", api.TooLarge)
		refuses(t, text+" a'", api.TooLarge)
	}
	refuses(t, strings.Repeat("(", 600)+"'"+strings.Repeat("a", 400)+"'", api.TooLarge)
	refuses(t, strings.Repeat("(", 600)+"'"+strings.Repeat("a", 401)+"'", api.TooLong)
	refuses(t, strings.Repeat(";", api.MaxText), api.TooLarge)
}
