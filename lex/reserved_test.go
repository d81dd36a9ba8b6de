package lex

import (
	"strings"
	"testing"

	"stile/api"
)

const reservedWords = "all and any as asc between by case cast check close coalesce commit create cross current cursor declare delete desc distinct drop else end except exists false fetch first for foreign from full group having in index inner insert intersect into is isolation join key last left level like next not null nullif of on only open or order outer primary prior read references relative release right rollback savepoint scroll select set some table then to transaction true union unique unknown update values when where absolute count sum min max bigint boolean char character int integer smallint varchar uncommitted committed repeatable serializable"

// reservedSet holds the words that the document lists.
func reservedSet() map[string]bool {
	set := map[string]bool{}
	for _, w := range strings.Fields(reservedWords) {
		set[w] = true
	}
	return set
}

func TestReserved(t *testing.T) {
	set := reservedSet()
	if len(set) != 102 {
		t.Fatalf("the list has %d words", len(set))
	}
	holds := func(w string) {
		t.Helper()
		if is := Reserved(w); is != set[w] {
			t.Errorf("P13.1: X2: Reserved(%q): %t", w, is)
		}
	}
	for w := range set {
		holds(w)
		holds(strings.ToUpper(w))
		holds(strings.ToUpper(w[:1]) + w[1:])
		holds(w[:len(w)-1] + strings.ToUpper(w[len(w)-1:]))
		for _, beside := range []string{" ", "_", "1", "\n", "'", "\x00", "\"", ","} {
			holds(beside + w)
			holds(w + beside)
		}
		for b := byte('a'); b <= 'z'; b++ {
			holds(w + string(b))
			holds(string(b) + w)
		}
		for i := range w {
			holds(w[:i])
			holds(w[i+1:])
			holds(w[:i] + w[i+1:])
		}
		for other := range set {
			holds(w + " " + other)
			holds(w + other)
		}
		// A word is reserved or not: Scan reads both alike.
		reads(t, strings.ToUpper(w), word(w, 0))
	}
	for _, w := range []string{"", " ", "a", "t", "name", "tables", "begin", "start", "with", "using", "natural", "limit", "offset", "add", "alter", "column", "default", "constraint", "cascade", "avg", "numeric", "date", "text", "work", "view", "grant", "exist", "abs", reservedWords, strings.Repeat("a", 5000), "\xff", "nul\u006c", "\u017felect", "\u212aey"} {
		holds(w)
	}
}

// All words of up to four letters.
func TestReservedOfShortWords(t *testing.T) {
	set := reservedSet()
	var all func(w string)
	all = func(w string) {
		if is := Reserved(w); is != set[w] {
			t.Errorf("P13.1: X2: Reserved(%q): %t", w, is)
		}
		for b := byte('a'); b <= 'z' && len(w) < 4; b++ {
			all(w + string(b))
		}
	}
	all("")
}

// The words that are not reserved are tokens of the same kind.
func TestReservedIsNoKind(t *testing.T) {
	is, state := Scan("select name")
	if state != api.Done || len(is) != 2 || is[0].Kind != api.Word || is[1].Kind != api.Word || !Reserved(is[0].S) || Reserved(is[1].S) {
		t.Errorf("P13.1: X2: %v, %q", is, state)
	}
}
