package modes

import (
	"math"
	"testing"

	"stile/api"
)

func allModes() []api.Mode {
	return []api.Mode{api.NL, api.IS, api.IX, api.S, api.SIX, api.U, api.X}
}

func noModes() []api.Mode {
	return []api.Mode{-1, -2, -6, -7, -64, 7, 8, 9, 14, 63, 64, 65, 256, 1 << 32, math.MinInt32, math.MaxInt32, math.MinInt, math.MinInt + 1, math.MaxInt - 1, math.MaxInt}
}

func TestRight(t *testing.T) {
	for i, m := range allModes() {
		if int(m) != i || !Right(m) {
			t.Errorf("P10.1: Right(%d) is false", m)
		}
	}
	for _, m := range noModes() {
		if Right(m) {
			t.Errorf("P10.1: Right(%d) is true", m)
		}
	}
}

func TestFits(t *testing.T) {
	table := [7]string{
		api.NL:  "yyyyyyy",
		api.IS:  "yyyyyyn",
		api.IX:  "yyynnnn",
		api.S:   "yynynyn",
		api.SIX: "yynnnnn",
		api.U:   "yynnnnn",
		api.X:   "ynnnnnn",
	}
	for _, held := range allModes() {
		for _, asked := range allModes() {
			if got, want := Fits(held, asked), table[held][asked] == 'y'; got != want {
				t.Errorf("P10.1: Fits(%d, %d): %v, not %v", held, asked, got, want)
			}
		}
	}
}

func TestCovers(t *testing.T) {
	table := [7]string{
		api.NL:  "ynnnnnn",
		api.IS:  "yynnnnn",
		api.IX:  "yyynnnn",
		api.S:   "yynynnn",
		api.SIX: "yyyyynn",
		api.U:   "yynynyn",
		api.X:   "yyyyyyy",
	}
	for _, a := range allModes() {
		for _, b := range allModes() {
			if got, want := Covers(a, b), table[a][b] == 'y'; got != want {
				t.Errorf("P10.1: Covers(%d, %d): %v, not %v", a, b, got, want)
			}
		}
	}
}

func TestJoin(t *testing.T) {
	const nl, is, ix, s, six, u, x = api.NL, api.IS, api.IX, api.S, api.SIX, api.U, api.X
	table := [7][7]api.Mode{
		nl:  {nl, is, ix, s, six, u, x},
		is:  {is, is, ix, s, six, u, x},
		ix:  {ix, ix, ix, six, six, x, x},
		s:   {s, s, six, s, six, u, x},
		six: {six, six, six, six, six, x, x},
		u:   {u, u, x, u, x, u, x},
		x:   {x, x, x, x, x, x, x},
	}
	for _, a := range allModes() {
		for _, b := range allModes() {
			if got := Join(a, b); got != table[a][b] {
				t.Errorf("P10.1: Join(%d, %d): %d, not %d", a, b, got, table[a][b])
			}
		}
	}
}

func TestNoModes(t *testing.T) {
	others := append(allModes(), noModes()...)
	for _, m := range noModes() {
		for _, o := range others {
			for _, x := range [][2]api.Mode{{m, o}, {o, m}} {
				if Fits(x[0], x[1]) {
					t.Errorf("P10.1: Fits(%d, %d) is true", x[0], x[1])
				}
				if Covers(x[0], x[1]) {
					t.Errorf("P10.1: Covers(%d, %d) is true", x[0], x[1])
				}
				if got := Join(x[0], x[1]); got != api.NL {
					t.Errorf("P10.1: Join(%d, %d): %d, not NL", x[0], x[1], got)
				}
			}
		}
	}
}

func TestCoversIsAnOrder(t *testing.T) {
	for _, a := range allModes() {
		if !Covers(a, a) {
			t.Errorf("P10.2: %d does not cover itself", a)
		}
		for _, b := range allModes() {
			if a != b && Covers(a, b) && Covers(b, a) {
				t.Errorf("P10.2: %d and %d cover one another", a, b)
			}
			for _, c := range allModes() {
				if Covers(a, b) && Covers(b, c) && !Covers(a, c) {
					t.Errorf("P10.2: %d covers %d, and that one %d, but the first not the last", a, b, c)
				}
			}
		}
	}
}

func TestJoinIsTheLeast(t *testing.T) {
	for _, a := range allModes() {
		for _, b := range allModes() {
			j := Join(a, b)
			if !Covers(j, a) || !Covers(j, b) {
				t.Errorf("P10.2: Join(%d, %d) is %d, which does not cover both", a, b, j)
			}
			for _, c := range allModes() {
				if Covers(c, a) && Covers(c, b) && !Covers(c, j) {
					t.Errorf("P10.2: Join(%d, %d) is %d, which %d does not cover", a, b, j, c)
				}
			}
		}
	}
}

func TestLawsOfJoin(t *testing.T) {
	for _, a := range allModes() {
		if Join(a, a) != a {
			t.Errorf("P10.2: Join(%d, %d): %d", a, a, Join(a, a))
		}
		for _, b := range allModes() {
			if Join(a, b) != Join(b, a) {
				t.Errorf("P10.2: Join of %d and %d: not commutative", a, b)
			}
			if Covers(a, b) != (Join(a, b) == a) {
				t.Errorf("P10.2: Covers(%d, %d) and Join disagree", a, b)
			}
			for _, c := range allModes() {
				if Join(Join(a, b), c) != Join(a, Join(b, c)) {
					t.Errorf("P10.2: Join of %d, %d, %d: not associative", a, b, c)
				}
			}
		}
	}
}

func TestStronger(t *testing.T) {
	for _, strong := range allModes() {
		for _, weak := range allModes() {
			if !Covers(strong, weak) {
				continue
			}
			for _, m := range allModes() {
				if Fits(strong, m) && !Fits(weak, m) {
					t.Errorf("P10.3: %d fits beside %d, but not beside %d, which that one covers", m, strong, weak)
				}
				if Fits(m, strong) && !Fits(m, weak) {
					t.Errorf("P10.3: %d fits beside %d, but %d, which it covers, does not", strong, m, weak)
				}
			}
		}
	}
}
