package lex

import (
	"bytes"
	"strconv"
	"strings"

	"stile/api"
)

const comment = "--"

// signs has the longer ones ahead, so that the first one that stands at a place is the longest.
var signs = [16]string{"<=", ">=", "<>", "||", "(", ")", ",", ".", ";", "=", "<", ">", "+", "-", "*", "/"}

// scanner is a text, and the place up to which it has been taken.
type scanner struct {
	text string
	at   int
}

func (s *scanner) atEnd() bool {
	return s.at == len(s.text)
}

func (s *scanner) stands(what string) bool {
	return strings.HasPrefix(s.text[s.at:], what)
}

// take is all bytes from here on that are of a kind, and goes behind them.
func (s *scanner) take(ofKind func(b byte) bool) string {
	from := s.at
	for !s.atEnd() && ofKind(s.text[s.at]) {
		s.at++
	}
	return s.text[from:s.at]
}

// skip goes behind blanks and comments.
func (s *scanner) skip() {
	s.take(isBlank)
	for s.stands(comment) {
		s.take(func(b byte) bool { return b != '\n' })
		s.take(isBlank)
	}
}

// next is the token that begins here, which is not the end.
func (s *scanner) next() (api.Token, api.State) {
	token := api.Token{At: s.at}
	var state api.State
	switch first := s.text[s.at]; {
	case isLetter(first):
		token.Kind = api.Word
		token.S, state = s.word()
	case isDigit(first):
		token.Kind = api.Number
		token.N, state = s.number()
	case first == '\'':
		token.Kind = api.String
		token.S, state = s.quoted()
	default:
		token.Kind = api.Sign
		token.S, state = s.sign()
	}
	return token, state
}

func (s *scanner) word() (string, api.State) {
	word := s.take(func(b byte) bool { return isLetter(b) || isDigit(b) })
	if len(word) > api.MaxName {
		return "", api.Syntax
	}
	// A copy even where all letters are small: what is told does not keep the text.
	return string(bytes.ToLower([]byte(word))), api.Done
}

func (s *scanner) number() (int64, api.State) {
	digits := s.take(isDigit)
	n, err := strconv.ParseInt(digits, 10, 64)
	if err != nil {
		return 0, api.OutOfRange
	}
	if !s.atEnd() && isLetter(s.text[s.at]) {
		return 0, api.Syntax
	}
	return n, api.Done
}

// quoted is what a text between quotes says.
func (s *scanner) quoted() (string, api.State) {
	var said []byte
	plain := true
	untilQuote := func(b byte) bool {
		if b == '\'' {
			return false
		}
		plain = plain && ' ' <= b && b <= '~'
		return true
	}
	for {
		s.at++
		said = append(said, s.take(untilQuote)...)
		if s.atEnd() {
			return "", api.Syntax
		}
		s.at++
		if !s.stands("'") {
			break
		}
		said = append(said, '\'')
	}
	if !plain {
		return "", api.Syntax
	}
	if len(said) > api.MaxString {
		return "", api.TooLong
	}
	return string(said), api.Done
}

func (s *scanner) sign() (string, api.State) {
	for _, sign := range signs {
		if s.stands(sign) {
			s.at += len(sign)
			return sign, api.Done
		}
	}
	return "", api.Syntax
}

func isBlank(b byte) bool {
	return b == '\t' || b == '\n' || b == '\r' || b == ' '
}

// isLetter counts _ among the letters: it may stand wherever one of these may.
func isLetter(b byte) bool {
	return 'a' <= b && b <= 'z' || 'A' <= b && b <= 'Z' || b == '_'
}

func isDigit(b byte) bool {
	return '0' <= b && b <= '9'
}
