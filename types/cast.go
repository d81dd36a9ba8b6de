package types

import (
	"errors"
	"strconv"
	"strings"

	"stile/api"
)

// mostDigits is how many digits of a text are read as a number.
const mostDigits = 400

// Cast is a value as one of another type.
func Cast(v api.Value, t api.Type) (api.Value, api.State) {
	if !Right(t) {
		return api.Value{}, api.Mismatch
	}
	to := KindOf(t)
	switch {
	case v.Kind == api.Text && to == api.Text:
		return filled(v.S[:min(len(v.S), t.Len)], t), api.Done
	case v.Kind == api.Num && to == api.Text:
		return told(strconv.FormatInt(v.N, 10), t)
	case v.Kind == api.Bool && to == api.Text:
		return told(strings.ToUpper(strconv.FormatBool(v.B)), t)
	case v.Kind == api.Text && to == api.Num:
		return readNumber(strings.Trim(v.S, " "), t)
	case v.Kind == api.Text && to == api.Bool:
		return readTruth(strings.Trim(v.S, " "))
	}
	// What is left is null, of one kind on both sides, or such as cannot be cast: Assign tells all of these.
	return Assign(v, t)
}

// told is the text of a number or a truth value, which is never cut off.
func told(s string, t api.Type) (api.Value, api.State) {
	if len(s) > t.Len {
		return api.Value{}, api.TooLong
	}
	return filled(s, t), api.Done
}

func readNumber(s string, t api.Type) (api.Value, api.State) {
	// The form is asked ahead of the size: strconv gives up at the first digit that is too many, and does not look at the bytes behind it.
	if !isNumber(s) {
		return api.Value{}, api.BadCast
	}
	n, err := strconv.ParseInt(s, 10, bits(t))
	if errors.Is(err, strconv.ErrRange) {
		return api.Value{}, api.OutOfRange
	}
	return api.Value{Kind: api.Num, N: n}, api.Done
}

// isNumber tells whether a text is a sign, or none, and digits that are not too many.
func isNumber(s string) bool {
	if s != "" && (s[0] == '+' || s[0] == '-') {
		s = s[1:]
	}
	if len(s) < 1 || len(s) > mostDigits {
		return false
	}
	for i := range len(s) {
		if s[i] < '0' || s[i] > '9' {
			return false
		}
	}
	return true
}

func readTruth(s string) (api.Value, api.State) {
	for _, b := range [2]bool{false, true} {
		if sameLetters(s, strconv.FormatBool(b)) {
			return api.Value{Kind: api.Bool, B: b}, api.Done
		}
	}
	return api.Value{}, api.BadCast
}

// sameLetters tells whether a text is a word of small letters, whichever of its letters are great. (strings.EqualFold would take letters beyond a to z for some of these.)
func sameLetters(s, word string) bool {
	if len(s) != len(word) {
		return false
	}
	for i := range len(s) {
		if s[i]|0x20 != word[i] {
			return false
		}
	}
	return true
}
