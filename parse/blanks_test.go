package parse

import (
	"math/rand"
	"reflect"
	"strings"
	"testing"

	"stile/api"
	"stile/lex"
)

// anew writes tokens again: other blanks and comments, letters great or small; texts as they are.
func anew(r *rand.Rand, tokens []api.Token) string {
	var out strings.Builder
	gap := func(needed bool) {
		// A - right ahead of a comment would be a part of it.
		if strings.HasSuffix(out.String(), "-") {
			out.WriteByte(' ')
		}
		gaps := []string{" ", "\n", "\t", "\r", " \r\n\t", "--\n", "-- 'x; select\n", "\n--\n--y\n", "--(\r)\n "}
		if !needed {
			gaps = append(gaps, "", "", "", "", "", "")
		}
		out.WriteString(gaps[r.Intn(len(gaps))])
	}
	gap(false)
	for i, token := range tokens {
		if i > 0 {
			gap(mustPart(tokens[i-1], token))
		}
		s := written(token)
		switch token.Kind {
		case api.Word:
			s = otherSize(r, s)
		case api.Number:
			s = strings.Repeat("0", r.Intn(3)) + s
		}
		out.WriteString(s)
	}
	gap(false)
	return out.String()
}

// mustPart tells whether two tokens would be others without a blank between.
func mustPart(a, b api.Token) bool {
	if a.Kind == api.Sign && b.Kind == api.Sign {
		both, state := lex.Scan(a.S + b.S)
		return state != api.Done || len(both) != 2 || both[0].S != a.S || both[1].S != b.S
	}
	return a.Kind != api.Sign && b.Kind != api.Sign && (a.Kind != api.String || b.Kind == api.String) && (b.Kind != api.String || a.Kind == api.String)
}

func otherSize(r *rand.Rand, word string) string {
	switch r.Intn(4) {
	case 0:
		return word
	case 1:
		return strings.ToUpper(word)
	}
	out := []byte(word)
	for i, b := range out {
		if 'a' <= b && b <= 'z' && r.Intn(2) == 0 {
			out[i] = b - 'a' + 'A'
		}
	}
	return string(out)
}

// holdsAnew asks what P14.2 says of a text: written anew it is answered the same.
func holdsAnew(t *testing.T, r *rand.Rand, text string) {
	t.Helper()
	tokens, state := lex.Scan(text)
	if state != api.Done {
		return
	}
	tree, state := Parse(text)
	for range 3 {
		again := anew(r, tokens)
		if len(again) > api.MaxText {
			continue
		}
		is, isState := Parse(again)
		if isState != state || !reflect.DeepEqual(is, tree) {
			t.Fatalf("P14.2: %q: %s, %s; %q: %s, %s", text, show(tree), state, again, show(is), isState)
		}
		if last := len(tokens) - 1; last >= 0 && tokens[last].S != ";" && len(tokens) < api.MaxTokens && len(again) < api.MaxText-1 {
			is, isState = Parse(again + "\n;")
			if isState != state || !reflect.DeepEqual(is, tree) {
				t.Fatalf("P14.2: %q: %s, %s; with ; behind: %s, %s", again, show(tree), state, show(is), isState)
			}
		}
	}
}

func TestWrittenAnew(t *testing.T) {
	r := rand.New(rand.NewSource(142))
	for _, s := range oneOfEach {
		for range 20 {
			holdsAnew(t, r, s)
		}
		tokens := tokensOf(t, s)
		for i := range tokens {
			holdsAnew(t, r, strings.Join(tokens[:i], " "))
			holdsAnew(t, r, strings.Join(append(tokens[:i:i], tokens[i+1:]...), " "))
		}
	}
}

func TestBlanks(t *testing.T) {
	const tree = "query(select(items(item(-(col:a num#1))) from(table:t(as:t)) where(=(col:b text:x)) group having) order)"
	for _, text := range []string{
		"select a - 1 from t where b = 'x'", "SELECT A - 1 FROM T WHERE B = 'x'", "Select a-1 From t Where b='x'", "sElEcT a-1\nfrom t wHeRe b='x'",
		"  select\ta\n-\r1\r\nfrom t where b='x'  ", "select a - 1 from t where b = 'x';", "select a - 1 from t where b = 'x' ; ", "select a-- b\n-1 from t where b = 'x'", "-- x\nselect a - 1 from t --;\nwhere b = 'x' -- y", "--\n--\nselect--\na--\n- --\n1--\nfrom--\nt--\nwhere--\nb--\n=--\n'x'--\n;--", "select a - 001 from t where b='x'",
	} {
		reads(t, text, tree)
	}
	reads(t, "select a - 1 from t where b = 'X'", strings.Replace(tree, "text:x", `text:"X"`, 1))
	reads(t, "SELECT A - 1 FROM T WHERE B = ' x '", strings.Replace(tree, "text:x", `text:" x "`, 1))
	reads(t, "SELECT A - 1 FROM T WHERE B = '--x;'", strings.Replace(tree, "text:x", `text:"--x;"`, 1))
	isSyntax(t, "selecta - 1 from t", "sel ect a from t", "select a --1 from t", "select a fromt", "select a from t where b < = 'x'", "select a from t; --\n;", "select a from t --\n; ;", "/* x */ select a from t")
	reads(t, "select a --1 from u\n from t", "query(select(items(item(col:a)) from(table:t(as:t)) where group having) order)")
}

// Names are told in small letters, texts as they are.
func TestSizeOfLetters(t *testing.T) {
	for _, size := range []func(string) string{strings.ToLower, strings.ToUpper, func(s string) string { return strings.ToUpper(s[:1]) + s[1:] }} {
		reads(t, size("savepoint abc"), "savepoint:abc")
		reads(t, size("create table tab (col char(3))"), "create table:tab(column:col(type:char#3))")
		reads(t, size("select t.*, t.a as bcd from t"), "query(select(items(star:t item:bcd(col:a(of:t))) from(table:t(as:t)) where group having) order)")
	}
	reads(t, "delete from T where 'aBc' = 'AbC'", `delete:t(where(=(text:"aBc" text:"AbC")))`)
	reads(t, "DELETE FROM T WHERE A = 'select'", "delete:t(where(=(col:a text:select)))")
	reads(t, "DELETE FROM T WHERE A = 'SELECT'", `delete:t(where(=(col:a text:"SELECT")))`)
}

// What is handed out may be changed: no later answer is another one for it.
func TestHandedOut(t *testing.T) {
	var spoil func(n *api.Node)
	spoil = func(n *api.Node) {
		all := n.L[:cap(n.L)]
		for i := range all {
			if i < len(n.L) {
				spoil(&n.L[i])
			}
			all[i] = api.Node{Op: "?", S: "?", N: -1, L: []api.Node{{}}}
		}
		n.Op, n.S, n.N = "?", "?", -1
	}
	for _, s := range oneOfEach {
		first, _ := Parse(s)
		other, _ := Parse(s)
		want := show(first)
		spoil(&first)
		if is := show(other); is != want {
			t.Errorf("P14.1: %s: %s, once another answer was changed", s, is)
		}
		reads(t, s, want)
	}
}

// P2: what was asked ahead does not count.
func TestOneBehindAnother(t *testing.T) {
	for range 3 {
		reads(t, "commit", "commit")
		isSyntax(t, "select", "commit commit")
		refuses(t, "delete from t where "+strings.Repeat("not ", 30)+"a", api.TooComplex)
		refuses(t, "9223372036854775808", api.OutOfRange)
		reads(t, "select 1 from t", "query("+one+" order)")
	}
}
