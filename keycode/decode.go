package keycode

import (
	"strings"

	"stile/api"
)

// noCode is thrown where the bytes are no code, however deep that is found.
type noCode struct{}

// Decode is the values of a code, or ErrKeyForm.
func Decode(s string) (r api.Row, e api.Errno) {
	defer func() {
		thrown := recover()
		if thrown == nil {
			return
		}
		if _, is := thrown.(noCode); !is {
			panic(thrown)
		}
		r, e = nil, api.ErrKeyForm
	}()
	at := 0
	next := func() byte {
		if at == len(s) {
			panic(noCode{})
		}
		at++
		return s[at-1]
	}
	for at < len(s) {
		r = append(r, takeValue(next))
	}
	return r, api.OK
}

func takeValue(next func() byte) api.Value {
	switch next() {
	case nullMark:
		return api.Value{}
	case numMark:
		return api.Value{Kind: api.Num, N: takeNum(next)}
	case textMark:
		return api.Value{Kind: api.Text, S: takeText(next)}
	case truthMark:
		return api.Value{Kind: api.Bool, B: takeTruth(next)}
	}
	panic(noCode{})
}

func takeNum(next func() byte) int64 {
	var bits uint64
	for range numBytes {
		bits = bits<<8 | uint64(next())
	}
	return int64(bits ^ signBit)
}

func takeText(next func() byte) string {
	var text []byte
	for {
		b := next()
		if b == 0 && endsText(next()) {
			break
		}
		text = append(text, b)
	}
	// A text with blanks at its end would be a second code of one that has none.
	words := string(text)
	if strings.HasSuffix(words, blank) {
		panic(noCode{})
	}
	return words
}

// endsText tells by the byte behind a 0 whether the text ends there, or has a 0 there.
func endsText(behind byte) bool {
	switch behind {
	case 0:
		return true
	case escaped:
		return false
	}
	panic(noCode{})
}

func takeTruth(next func() byte) bool {
	switch next() {
	case 0:
		return false
	case 1:
		return true
	}
	panic(noCode{})
}
