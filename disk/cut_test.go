package disk

import (
	"bytes"
	"math"
	"slices"
	"testing"

	"stile/api"
)

// step is a Write or, if its place is below 0, a Sync.
type step struct {
	place int
	text  string
}

var syncStep = step{place: -1}

func done(t *testing.T, sectors int, steps ...step) *Disk {
	t.Helper()
	d := made(t, sectors)
	for _, s := range steps {
		if s.place < 0 {
			d.Sync()
			continue
		}
		wrote(t, d, s.place, s.text)
	}
	return d
}

// exampleDisk is the one of the chapter's examples.
func exampleDisk(t *testing.T) *Disk {
	t.Helper()
	return done(t, 4, step{1, "ab"}, syncStep, step{1, "cd"}, step{2, "e"})
}

func TestCutsOfTheExample(t *testing.T) {
	d := exampleDisk(t)
	counts(t, "P5.1: the example", d, 3, 2)
	holds(t, "P5.1: the example", d, "", "cd", "e", "")
	for _, c := range []struct {
		keep []bool
		want []string
	}{
		{nil, []string{"", "ab", "", ""}},
		{[]bool{}, []string{"", "ab", "", ""}},
		{[]bool{false}, []string{"", "ab", "", ""}},
		{[]bool{true}, []string{"", "cd", "", ""}},
		{[]bool{false, false}, []string{"", "ab", "", ""}},
		{[]bool{false, true}, []string{"", "ab", "e", ""}},
		{[]bool{true, false}, []string{"", "cd", "", ""}},
		{[]bool{true, true}, []string{"", "cd", "e", ""}},
		{[]bool{false, false, true}, []string{"", "ab", "", ""}},
		{[]bool{true, true, true, true}, []string{"", "cd", "e", ""}},
	} {
		cut := d.Cut(c.keep)
		holds(t, "P5.1: Cut", cut, c.want...)
		counts(t, "P5.1: Cut", cut, 0, 0)
		for _, n := range []int{3, 4, 99, math.MaxInt} {
			// Nothing came behind the last write, so that the end is the same loss of power.
			holds(t, "P5.1: CutAt the end", d.CutAt(n, c.keep), c.want...)
		}
	}
	holds(t, "P5.1: the example stays", d, "", "cd", "e", "")
	counts(t, "P5.1: the example stays", d, 3, 2)
}

func TestCutAtEachWrite(t *testing.T) {
	d := done(t, 2, syncStep, step{0, "a"}, step{0, "b"}, syncStep, syncStep, step{1, "c"}, step{0, "d"}, syncStep)
	for _, c := range []struct {
		n    int
		keep []bool
		want []string
	}{
		{math.MinInt, []bool{true, true}, []string{"", ""}},
		{-1, []bool{true}, []string{"", ""}},
		{0, nil, []string{"", ""}},
		{0, []bool{true, true, true, true}, []string{"", ""}},
		{1, nil, []string{"", ""}},
		{1, []bool{true}, []string{"a", ""}},
		{1, []bool{false, true}, []string{"", ""}},
		{1, []bool{true, true, true, true}, []string{"a", ""}},
		// Just ahead of the Sync behind the second write: both are pending.
		{2, nil, []string{"", ""}},
		{2, []bool{true}, []string{"a", ""}},
		{2, []bool{true, false}, []string{"a", ""}},
		{2, []bool{false, true}, []string{"b", ""}},
		{2, []bool{true, true}, []string{"b", ""}},
		// The first write behind that Sync: both are safe, and it is the first one pending.
		{3, nil, []string{"b", ""}},
		{3, []bool{true}, []string{"b", "c"}},
		{3, []bool{false, true}, []string{"b", ""}},
		{4, nil, []string{"b", ""}},
		{4, []bool{false, true}, []string{"d", ""}},
		{4, []bool{true, true}, []string{"d", "c"}},
		// The last Sync came behind the last write.
		{5, nil, []string{"b", ""}},
		{math.MaxInt, []bool{true}, []string{"b", "c"}},
	} {
		cut := d.CutAt(c.n, c.keep)
		holds(t, "P5.1: CutAt", cut, c.want...)
		counts(t, "P5.1: CutAt", cut, 0, 0)
	}
	holds(t, "P5.1: Cut behind a Sync", d.Cut(nil), "d", "c")
	holds(t, "P5.1: Cut behind a Sync", d.Cut([]bool{true, true}), "d", "c")
	holds(t, "P5.1: behind cuts", d, "d", "c")
	counts(t, "P5.1: behind cuts", d, 4, 0)
}

func TestSeveralWritesToOneSectorBetweenSyncs(t *testing.T) {
	d := done(t, 1, step{0, "old, and longer"}, syncStep, step{0, "one"}, step{0, "two..."}, step{0, "3"})
	for _, c := range []struct {
		keep []bool
		want string
	}{
		{nil, "old, and longer"},
		{[]bool{true}, "one"},
		{[]bool{false, true}, "two..."},
		{[]bool{true, true}, "two..."},
		{[]bool{false, false, true}, "3"},
		{[]bool{true, true, true}, "3"},
		{[]bool{false, true, true}, "3"},
		{[]bool{true, false, false}, "one"},
	} {
		holds(t, "P5.1: pending writes are kept in their order, each over what was there", d.Cut(c.keep), c.want)
	}
}

func TestCutOfANewDisk(t *testing.T) {
	for _, n := range []int{1, 4096} {
		d := made(t, n)
		for _, keep := range [][]bool{nil, {true}, {false, true}} {
			holds(t, "P5.1: Cut of a new disk", d.Cut(keep), make([]string, n)...)
			holds(t, "P5.1: CutAt of a new disk", d.CutAt(0, keep), make([]string, n)...)
			holds(t, "P5.1: CutAt of a new disk", d.CutAt(1, keep), make([]string, n)...)
		}
	}
}

func TestCutBeginsAnew(t *testing.T) {
	cut := exampleDisk(t).Cut([]bool{true})
	wrote(t, cut, 1, "z")
	wrote(t, cut, 3, "y")
	counts(t, "P5.1: writes to a Cut", cut, 2, 2)
	holds(t, "P5.1: writes to a Cut", cut, "", "z", "", "y")
	holds(t, "P5.1: Cut of a Cut", cut.Cut(nil), "", "cd", "", "")
	holds(t, "P5.1: Cut of a Cut", cut.Cut([]bool{false, true}), "", "cd", "", "y")
	holds(t, "P5.1: CutAt of a Cut", cut.CutAt(0, []bool{true}), "", "cd", "", "")
	holds(t, "P5.1: CutAt of a Cut", cut.CutAt(1, []bool{true}), "", "z", "", "")
	cut.Sync()
	holds(t, "P5.1: Cut of a Cut behind Sync", cut.Cut(nil), "", "z", "", "y")
	holds(t, "P5.1: CutAt of a Cut", cut.CutAt(2, nil), "", "cd", "", "")
	last := cut.Cut(nil).Cut(nil)
	holds(t, "P5.1: Cut again and again", last, "", "z", "", "y")
	for _, i := range []int{-1, 4} {
		if b, e := last.Read(i); b != nil || e != api.ErrDiskRange {
			t.Errorf("P5.1: Read(%d) of a Cut: %v, %d", i, b, e)
		}
		if e := last.Write(i, nil); e != api.ErrDiskRange {
			t.Errorf("P5.1: Write(%d) of a Cut: %d", i, e)
		}
	}
}

func TestCutSharesNothingWithItsDisk(t *testing.T) {
	d := exampleDisk(t)
	for _, cut := range []*Disk{d.Cut(nil), d.CutAt(1, nil), d.CutAt(0, nil), d.Cut([]bool{true, true}), d.CutAt(3, []bool{true, true})} {
		if cut == d {
			t.Fatal("P5.1: a Cut is the disk itself")
		}
		before := read(t, cut, 0)
		for i := range 4 {
			wrote(t, cut, i, "of the cut")
		}
		cut.Sync()
		wrote(t, cut, 0, "of the cut again")
		holds(t, "P5.1: the disk behind writes to its Cut", d, "", "cd", "e", "")
		counts(t, "P5.1: the disk behind writes to its Cut", d, 3, 2)
		if !bytes.Equal(before, padded("")) {
			t.Errorf("P5.1: what was read of a Cut has changed: %q", before)
		}
		holds(t, "P5.1: another Cut", d.Cut([]bool{false, true}), "", "ab", "e", "")
		holds(t, "P5.1: another CutAt", d.CutAt(1, []bool{true}), "", "ab", "", "")
		holds(t, "P5.1: another CutAt", d.CutAt(0, nil), "", "", "", "")
	}
	cut := d.Cut([]bool{true, true})
	for i := range 4 {
		wrote(t, d, i, "of the disk")
	}
	d.Sync()
	holds(t, "P5.1: a Cut behind writes to its disk", cut, "", "cd", "e", "")
	counts(t, "P5.1: a Cut behind writes to its disk", cut, 0, 0)
	holds(t, "P5.1: a Cut of a Cut behind writes to its disk", cut.CutAt(0, nil), "", "cd", "e", "")
}

func TestCutLeavesKeepAsItIs(t *testing.T) {
	d := exampleDisk(t)
	memory := []bool{false, true, true, true}
	keep := memory[:1]
	holds(t, "P5.1: what lies behind keep's length is not read", d.Cut(keep), "", "ab", "", "")
	holds(t, "P5.1: what lies behind keep's length is not read", d.CutAt(3, keep), "", "ab", "", "")
	if !slices.Equal(memory, []bool{false, true, true, true}) {
		t.Errorf("P5.1: keep was written into: %v", memory)
	}
	keep = []bool{true, true}
	cut := d.Cut(keep)
	clear(keep)
	holds(t, "P5.1: keep is changed behind Cut", cut, "", "cd", "e", "")
}

// model tells what cuts are from the steps themselves, one by one.
type model struct {
	first []string
	steps []step
}

// powerAt is what a loss of power ahead of a step leaves.
func (m model) powerAt(end int, keep []bool) []string {
	out := slices.Clone(m.first)
	var pending []step
	for _, s := range m.steps[:end] {
		if s.place >= 0 {
			pending = append(pending, s)
			continue
		}
		for _, p := range pending {
			out[p.place] = p.text
		}
		pending = nil
	}
	for k, p := range pending {
		if k < len(keep) && keep[k] {
			out[p.place] = p.text
		}
	}
	return out
}

// behind is the step right behind the n-th write.
func (m model) behind(n int) int {
	if n < 1 {
		return 0
	}
	seen := 0
	for i, s := range m.steps {
		if s.place >= 0 {
			seen++
		}
		if seen == n {
			return i + 1
		}
	}
	return m.behind(seen)
}

// now is what the last writes have left.
func (m model) now() []string {
	out := slices.Clone(m.first)
	for _, s := range m.steps {
		if s.place >= 0 {
			out[s.place] = s.text
		}
	}
	return out
}

// bits is keep of so many places, told by a number's bits.
func bits(n, places int) []bool {
	out := make([]bool, places)
	for i := range out {
		out[i] = n>>i&1 == 1
	}
	return out
}

// asModel asks all cuts of a disk to be as its model tells.
func asModel(t *testing.T, d *Disk, m model) {
	t.Helper()
	holds(t, "P5.1: the disk", d, m.now()...)
	for n := range 16 {
		for places := range 5 {
			keep := bits(n, places)
			holds(t, "P5.1: Cut", d.Cut(keep), m.powerAt(len(m.steps), keep)...)
			for k := -1; k <= d.Writes()+1; k++ {
				holds(t, "P5.1: CutAt", d.CutAt(k, keep), m.powerAt(m.behind(k), keep)...)
			}
		}
	}
	holds(t, "P5.1: the disk behind its cuts", d, m.now()...)
}

func TestCutsOfAllShortRuns(t *testing.T) {
	// A Sync ahead of all changes nothing, so that runs of five steps stand for the shorter ones too.
	choices := []step{syncStep, {0, "a"}, {0, ""}, {1, "bb"}}
	for n := range 4 * 4 * 4 * 4 * 4 {
		m := model{first: make([]string, 2)}
		for k := range 5 {
			m.steps = append(m.steps, choices[n>>(2*k)%4])
		}
		asModel(t, done(t, 2, m.steps...), m)
		if t.Failed() {
			t.Fatalf("P5.1: the run was %v", m.steps)
		}
	}
}

// TestSafe asks P5.2 by its own words, of disks that are cut again and again.
func TestSafe(t *testing.T) {
	const sectors = 5
	d := made(t, sectors)
	seen := make([][]string, sectors)
	for i := range seen {
		seen[i] = []string{""}
	}
	safe, fresh := make([]string, sectors), make([]bool, sectors)
	state := uint32(7)
	next := func(n int) int {
		state = state*1664525 + 1013904223
		return int(state>>16) % n
	}
	for turn := range 3000 {
		switch i := next(sectors); next(8) {
		case 0:
			d.Sync()
			for k := range sectors {
				safe[k] = string(bytes.TrimRight(read(t, d, k), "\x00"))
			}
			clear(fresh)
		case 1:
			d = d.Cut(bits(next(1<<10), next(12)))
			for k := range sectors {
				s := string(bytes.TrimRight(read(t, d, k), "\x00"))
				if !fresh[k] && s != safe[k] {
					t.Fatalf("P5.2: turn %d: sector %d was %q ahead of a Sync, and is %q in a Cut", turn, k, safe[k], s)
				}
				if !slices.Contains(seen[k], s) {
					t.Fatalf("P5.2: turn %d: sector %d is %q in a Cut, and was never left so", turn, k, s)
				}
				safe[k], seen[k] = s, []string{s}
			}
			clear(fresh)
		default:
			s := string(slices.Repeat([]byte{byte('a' + turn%26)}, next(129)))
			wrote(t, d, i, s)
			seen[i], fresh[i] = append(seen[i], s), true
		}
	}
}

func FuzzDisk(f *testing.F) {
	f.Add([]byte{0, 5, 9, 255, 3, 17})
	f.Add([]byte{255, 255, 1, 1, 1, 255})
	f.Fuzz(func(t *testing.T, run []byte) {
		run = run[:min(len(run), 12)]
		d, m := made(t, 3), model{first: make([]string, 3)}
		for k, c := range run {
			switch {
			case c >= 250:
				keep := bits(k, 4)
				m = model{first: m.powerAt(len(m.steps), keep)}
				d = d.Cut(keep)
			case c >= 200:
				m.steps = append(m.steps, syncStep)
				d.Sync()
			default:
				s := step{int(c) % 3, string(slices.Repeat([]byte{byte(k + 1)}, int(c)%129))}
				m.steps = append(m.steps, s)
				wrote(t, d, s.place, s.text)
			}
		}
		asModel(t, d, m)
	})
}
