package types

import (
	"strings"

	"stile/api"
)

// Assign is a value as a column of a type has it.
func Assign(v api.Value, t api.Type) (api.Value, api.State) {
	if !Right(t) {
		return api.Value{}, api.Mismatch
	}
	if v.Kind == api.Null {
		return api.Value{}, api.Done
	}
	if v.Kind != KindOf(t) {
		return api.Value{}, api.Mismatch
	}
	switch v.Kind {
	case api.Num:
		return assignNumber(v.N, t)
	case api.Text:
		return assignText(v.S, t)
	}
	return api.Value{Kind: api.Bool, B: v.B}, api.Done
}

func assignNumber(n int64, t api.Type) (api.Value, api.State) {
	// A number is of a type just if what lies above the type's bits is its sign, and nothing else.
	if sign := n >> (bits(t) - 1); sign != 0 && sign != -1 {
		return api.Value{}, api.OutOfRange
	}
	return api.Value{Kind: api.Num, N: n}, api.Done
}

// bits is how many bits a type of numbers has.
func bits(t api.Type) int {
	switch t.Base {
	case api.Small:
		return 16
	case api.Integer:
		return 32
	}
	return 64
}

func assignText(s string, t api.Type) (api.Value, api.State) {
	if len(s) > t.Len {
		if strings.TrimRight(s[t.Len:], " ") != "" {
			return api.Value{}, api.TooLong
		}
		s = s[:t.Len]
	}
	return filled(s, t), api.Done
}

// filled is a text that has room in its type, for Char with blanks behind it.
func filled(s string, t api.Type) api.Value {
	if t.Base == api.Char {
		s += strings.Repeat(" ", t.Len-len(s))
	}
	return api.Value{Kind: api.Text, S: s}
}
