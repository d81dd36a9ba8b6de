package value

import (
	"math"
	"testing"

	"stile/api"
)

// allTruths holds the three truths and numbers that are none.
func allTruths() []api.Truth {
	return []api.Truth{api.False, api.Unknown, api.True, 3, -1, 9, math.MaxInt, math.MinInt}
}

// taken is what a number counts as: one that is no truth as Unknown.
func taken(a api.Truth) api.Truth {
	if a < api.False || a > api.True {
		return api.Unknown
	}
	return a
}

func TestTruthTables(t *testing.T) {
	and := [3][3]api.Truth{
		{api.False, api.False, api.False},
		{api.False, api.Unknown, api.Unknown},
		{api.False, api.Unknown, api.True},
	}
	or := [3][3]api.Truth{
		{api.False, api.Unknown, api.True},
		{api.Unknown, api.Unknown, api.True},
		{api.True, api.True, api.True},
	}
	not := [3]api.Truth{api.True, api.Unknown, api.False}
	for _, a := range allTruths() {
		if got := Not(a); got != not[taken(a)] {
			t.Errorf("P1.1: Not(%d): %d", a, got)
		}
		for _, b := range allTruths() {
			if got := And(a, b); got != and[taken(a)][taken(b)] {
				t.Errorf("P1.1: And(%d, %d): %d", a, b, got)
			}
			if got := Or(a, b); got != or[taken(a)][taken(b)] {
				t.Errorf("P1.1: Or(%d, %d): %d", a, b, got)
			}
		}
	}
}

func TestLawsOfTruths(t *testing.T) {
	for _, a := range allTruths() {
		for _, b := range allTruths() {
			if Not(And(a, b)) != Or(Not(a), Not(b)) || Not(Or(a, b)) != And(Not(a), Not(b)) {
				t.Errorf("P1.3: De Morgan of %d, %d", a, b)
			}
			if And(a, b) != And(b, a) || Or(a, b) != Or(b, a) {
				t.Errorf("P1.3: %d, %d: not commutative", a, b)
			}
			for _, c := range allTruths() {
				if And(a, And(b, c)) != And(And(a, b), c) || Or(a, Or(b, c)) != Or(Or(a, b), c) {
					t.Errorf("P1.3: %d, %d, %d: not associative", a, b, c)
				}
				if And(a, Or(b, c)) != Or(And(a, b), And(a, c)) || Or(a, And(b, c)) != And(Or(a, b), Or(a, c)) {
					t.Errorf("P1.3: %d, %d, %d: not shared out", a, b, c)
				}
			}
		}
	}
}
