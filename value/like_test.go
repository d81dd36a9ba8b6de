package value

import (
	"strings"
	"testing"
)

// follows is Like as the document words it, without thought for the number of steps.
func follows(text, pattern string) bool {
	if pattern == "" {
		return text == ""
	}
	if pattern[0] == '%' {
		return follows(text, pattern[1:]) || text != "" && follows(text[1:], pattern)
	}
	return text != "" && (pattern[0] == '_' || pattern[0] == text[0]) && follows(text[1:], pattern[1:])
}

// wordsOf holds all texts of at most some bytes of an alphabet.
func wordsOf(alphabet string, most int) []string {
	out := []string{""}
	last := out
	for range most {
		var next []string
		for _, w := range last {
			for i := range len(alphabet) {
				next = append(next, w+alphabet[i:i+1])
			}
		}
		out = append(out, next...)
		last = next
	}
	return out
}

func TestLikeOfAllShortTexts(t *testing.T) {
	for _, s := range wordsOf("ab%_ ", 4) {
		for _, p := range wordsOf("ab%_ ", 4) {
			if got := Like(s, p); got != follows(s, p) {
				t.Fatalf("P1.1: Like(%q, %q): %t", s, p, got)
			}
		}
	}
	for _, s := range wordsOf("ab", 7) {
		for _, p := range wordsOf("a%_", 6) {
			if got := Like(s, p); got != follows(s, p) {
				t.Fatalf("P1.1: Like(%q, %q): %t", s, p, got)
			}
		}
	}
}

func TestLike(t *testing.T) {
	for _, x := range []struct {
		text, pattern string
		want          bool
	}{
		{"", "", true},
		{"", "%", true},
		{"", "%%%", true},
		{"", "_", false},
		{"", "%_", false},
		{"a", "", false},
		{" ", "", false},
		{"abc", "abc", true},
		{"abc", "ABC", false},
		{"abc", "ab", false},
		{"ab", "abc", false},
		{"abc", "a%", true},
		{"abc", "%c", true},
		{"abc", "%b%", true},
		{"abc", "a%c_", false},
		{"abc", "___", true},
		{"abc", "__", false},
		{"abc", "____", false},
		{"abcbc", "%bc", true},
		{"abcbcd", "%bc", false},
		{"mississippi", "m%iss%ip%i", true},
		{"mississippi", "m%iss%iss%iss%", false},
		{"a ", "a", false},
		{"a", "a ", false},
		{"a ", "a_", true},
		{"a ", "a ", true},
		{"%", "%", true},
		{"_", "_", true},
		{"a%b", "a%b", true},
		{"a.b", "a.b", true},
		{"axb", "a.b", false},
		{"a*", "a*", true},
		{`a\%`, `a\%`, true},
		{`a%`, `a\%`, false},
		{"\xc3\xa9", "_", false}, // one letter, but two bytes
		{"\xc3\xa9", "__", true},
		{"\x00\xff", "_\xff", true},
		{"\x00\xff", "%\x00", false},
	} {
		if got := Like(x.text, x.pattern); got != x.want {
			t.Errorf("P1.1: Like(%q, %q): %t", x.text, x.pattern, got)
		}
	}
}

// A pattern of many % must not make the steps grow beyond both lengths' product.
func TestLikeOfLongTexts(t *testing.T) {
	long := strings.Repeat("a", 5000)
	if Like(long, strings.Repeat("a%", 200)+"b") || !Like(long, strings.Repeat("%a", 200)) || !Like(long+"b", strings.Repeat("a%", 200)+"b") {
		t.Error("P1.1: Like of long texts")
	}
}
