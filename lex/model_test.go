package lex

import (
	"math/big"
	"math/rand"
	"regexp"
	"slices"
	"strconv"
	"strings"
	"testing"

	"stile/api"
)

// form is how a kind of token is written, and what is told of one that is written so, with what follows it.
type form struct {
	begins *regexp.Regexp
	tells  func(is, rest string) (api.Token, api.State)
}

var nothing = regexp.MustCompile(`^(?:[\t\n\r ]|--[^\n]*)*`)

func failed(state api.State) (api.Token, api.State) { return api.Token{}, state }

var forms = []form{
	{regexp.MustCompile(`^[A-Za-z_][A-Za-z0-9_]*`), func(is, _ string) (api.Token, api.State) {
		if len(is) > 32 {
			return failed("42601")
		}
		return api.Token{Kind: 0, S: strings.ToLower(is)}, "00000"
	}},
	{regexp.MustCompile(`^[0-9]+`), func(is, rest string) (api.Token, api.State) {
		n, _ := new(big.Int).SetString(is, 10)
		if !n.IsInt64() {
			return failed("22003")
		}
		if regexp.MustCompile(`^[A-Za-z_]`).MatchString(rest) {
			return failed("42601")
		}
		return api.Token{Kind: 1, N: n.Int64()}, "00000"
	}},
	{regexp.MustCompile(`^'(?:[^']|'')*'`), func(is, rest string) (api.Token, api.State) {
		// If one more follows, the two stand for one, and there is no end.
		if strings.HasPrefix(rest, "'") || !regexp.MustCompile(`^[ -~]*$`).MatchString(is) {
			return failed("42601")
		}
		s := strings.ReplaceAll(is[1:len(is)-1], "''", "'")
		if len(s) > 400 {
			return failed("22001")
		}
		return api.Token{Kind: 2, S: s}, "00000"
	}},
	{regexp.MustCompile(`^(?:<=|>=|<>|\|\||[(),.;=<>+*/-])`), func(is, _ string) (api.Token, api.State) {
		return api.Token{Kind: 3, S: is}, "00000"
	}},
}

func modelNext(rest string) (api.Token, int, api.State) {
	for _, f := range forms {
		if is := f.begins.FindString(rest); is != "" {
			token, state := f.tells(is, rest[len(is):])
			return token, len(is), state
		}
	}
	return api.Token{}, 0, "42601"
}

func modelScan(text string) ([]api.Token, api.State) {
	if len(text) > 2000 {
		return nil, "54000"
	}
	var out []api.Token
	for at := len(nothing.FindString(text)); at < len(text); at += len(nothing.FindString(text[at:])) {
		token, n, state := modelNext(text[at:])
		if state != "00000" {
			return nil, state
		}
		if len(out) == 600 {
			return nil, "54000"
		}
		token.At = at
		out = append(out, token)
		at += n
	}
	return out, "00000"
}

// written is a token as it would be written.
func written(token api.Token) string {
	switch token.Kind {
	case api.Number:
		return strconv.FormatInt(token.N, 10)
	case api.String:
		return "'" + strings.ReplaceAll(token.S, "'", "''") + "'"
	}
	return token.S
}

// lengthAt is how many bytes of the text a token takes at its place, or 0 if it does not stand there.
func lengthAt(text string, token api.Token) int {
	here := text[token.At:]
	switch token.Kind {
	case api.Number:
		digits := here[:len(here)-len(strings.TrimLeft(here, "0123456789"))]
		if digits != "" && "0"+strings.TrimLeft(digits, "0") == "0"+strings.TrimLeft(written(token), "0") {
			return len(digits)
		}
	case api.Word:
		if n := len(token.S); n <= len(here) && strings.ToLower(here[:n]) == token.S {
			return n
		}
	default:
		if strings.HasPrefix(here, written(token)) {
			return len(written(token))
		}
	}
	return 0
}

var (
	between = regexp.MustCompile(`^(?:[\t\n\r ]|--[^\n]*\n)*$`)
	behind  = regexp.MustCompile(`^(?:[\t\n\r ]|--[^\n]*\n)*(?:--[^\n]*)?$`)
)

// placed asks what P13.2 says.
func placed(t *testing.T, text string, tokens []api.Token) {
	t.Helper()
	end := 0
	for i, token := range tokens {
		if token.At < end || token.At >= len(text) {
			t.Fatalf("P13.2: %q: token %d stands at %d, the one ahead ends at %d", text, i, token.At, end)
		}
		if gap := text[end:token.At]; !between.MatchString(gap) {
			t.Fatalf("P13.2: %q: %q lies ahead of token %d", text, gap, i)
		}
		n := lengthAt(text, token)
		if n == 0 {
			t.Fatalf("P13.2: %q: token %d, %v, does not stand at its place", text, i, token)
		}
		end = token.At + n
	}
	if !behind.MatchString(text[end:]) {
		t.Fatalf("P13.2: %q: %q lies behind the last token", text, text[end:])
	}
}

// again asks what P13.3 says, with each kind of blanks. What is longer than a text may be is not asked.
func again(t *testing.T, tokens []api.Token) {
	t.Helper()
	for _, blanks := range []string{" ", "\t", "\n", "\r", " \r\n\t"} {
		var text strings.Builder
		want := slices.Clone(tokens)
		for i, token := range tokens {
			if i > 0 {
				text.WriteString(blanks)
			}
			want[i].At = text.Len()
			text.WriteString(written(token))
		}
		if text.Len() > api.MaxText {
			continue
		}
		if is, state := Scan(text.String()); state != api.Done || !slices.Equal(is, want) {
			t.Fatalf("P13.3: %q: %v, %q, not %v", text.String(), is, state, want)
		}
	}
}

// asModel holds a text against the model, and its tokens against P13.2 and P13.3.
func asModel(t *testing.T, text string) {
	t.Helper()
	is, state := Scan(text)
	want, wantState := modelScan(text)
	if state != wantState || !slices.Equal(is, want) {
		t.Fatalf("P13.1: X1: %q: %v, %q, not %v, %q", text, is, state, want, wantState)
	}
	if state == api.Done {
		placed(t, text, is)
		again(t, is)
	}
}

// allTexts hands on each text of up to some bytes of an alphabet.
func allTexts(alphabet string, most int, each func(text string)) {
	var grow func(text []byte)
	grow = func(text []byte) {
		each(string(text))
		if len(text) == most {
			return
		}
		for i := range len(alphabet) {
			grow(append(text, alphabet[i]))
		}
	}
	grow(make([]byte, 0, most))
}

func TestAllShortTexts(t *testing.T) {
	for _, c := range []struct {
		alphabet string
		most     int
	}{
		{"aZ_09'-\n |<>=.@\x80", 4},
		{"'-\na ", 6},
		{"<>=|-1", 5},
		{"_1' a", 5},
	} {
		allTexts(c.alphabet, c.most, func(text string) { asModel(t, text) })
	}
}

func TestRandomTexts(t *testing.T) {
	r := rand.New(rand.NewSource(13))
	pieces := []string{
		"a", "Select", "x_1", "_", "0", "7", "007", "9223372036854775807", "''", "'a'", "'it''s'", "''''", "' -- '",
		"<=", ">=", "<>", "||", "(", ")", ",", ".", ";", "=", "<", ">", "+", "-", "*", "/",
		" ", "\n", "\t", "\r", "-- x\n", "--\n", "--'\n", " ", " ", "\n",
	}
	rare := []string{"9223372036854775808", "1a", "|", "'", "@", "\x00", "\xc3\xa9", "'\n'", "--", strings.Repeat("w", 32), strings.Repeat("w", 33), "'" + strings.Repeat("t", 400) + "'", "'" + strings.Repeat("t", 401) + "'"}
	for range 6000 {
		var text strings.Builder
		for range r.Intn(1 << r.Intn(10)) {
			if r.Intn(200) == 0 {
				text.WriteString(rare[r.Intn(len(rare))])
			} else {
				text.WriteString(pieces[r.Intn(len(pieces))])
			}
		}
		asModel(t, text.String())
	}
}

// Texts of about as many tokens as there may be, and of bytes of all kinds.
func TestRandomTextsAtTheLimits(t *testing.T) {
	r := rand.New(rand.NewSource(14))
	tokens := []string{"a ", "1 ", "(", "<=", "'' ", "-- \n+", "\nb\t"}
	ends := []string{"", "@", "1a", "'", "--'", " 9223372036854775808", " a", "'\xff'"}
	for range 400 {
		var text strings.Builder
		for range 596 + r.Intn(9) {
			text.WriteString(tokens[r.Intn(len(tokens))])
		}
		asModel(t, text.String()+ends[r.Intn(len(ends))])
	}
	for range 20000 {
		text := make([]byte, r.Intn(12))
		r.Read(text)
		asModel(t, string(text))
	}
}

// FuzzScan holds that nothing panics, and that all texts are told as the model tells them.
func FuzzScan(f *testing.F) {
	for _, text := range []string{"", "select 'it''s'-- x", "Select a.b, 007 <=> -- x\n 'y'||z_1;", "1a", "9223372036854775808_", "'a''", "a | b", strings.Repeat("a ", 601), strings.Repeat(" ", 2001)} {
		f.Add(text)
	}
	f.Fuzz(func(t *testing.T, text string) { asModel(t, text) })
}
