package locks

import (
	"math/rand"
	"slices"
	"testing"

	"stile/api"
	"stile/modes"
)

// model is a table that is written as the chapter reads.
type model struct {
	most     int
	requests []api.Request
}

// clash asks two requests of which e is the earlier one.
func (m *model) clash(e, r api.Request) bool {
	if e.Tx == r.Tx || !modes.Meet(e.Object, r.Object) {
		return false
	}
	switch {
	case e.Granted:
		return !modes.Fits(e.Mode, r.Mode)
	case r.Granted:
		return !modes.Fits(r.Mode, e.Mode)
	}
	return !modes.Fits(e.Mode, r.Mode) || !modes.Fits(r.Mode, e.Mode)
}

func (m *model) conversion(at int) bool {
	r := m.requests[at]
	for _, e := range m.requests[:at] {
		if e.Tx == r.Tx && e.Granted && e.Object == r.Object {
			return true
		}
	}
	return false
}

// against holds the transactions of the requests that keep one waiting, rising, none twice.
func (m *model) against(at int) []int {
	var out []int
	conversion := m.conversion(at)
	for i, other := range m.requests {
		first, second := other, m.requests[at]
		if i > at {
			first, second = second, first
		}
		keeps := other.Granted || i < at && !conversion
		if i != at && keeps && m.clash(first, second) {
			out = append(out, other.Tx)
		}
	}
	slices.Sort(out)
	return slices.Compact(out)
}

func (m *model) mayBeGranted(at int) bool {
	return !m.requests[at].Granted && len(m.against(at)) == 0
}

func (m *model) waits(tx int) bool {
	return slices.ContainsFunc(m.requests, func(r api.Request) bool { return r.Tx == tx && !r.Granted })
}

func (m *model) had(tx int, o api.Object, mode api.Mode) []int {
	var out []int
	for i, r := range m.requests {
		if r.Tx == tx && r.Granted && modes.Within(o, r.Object) && modes.Covers(r.Mode, mode) {
			out = append(out, i)
		}
	}
	return out
}

func (m *model) ask(tx int, o api.Object, mode api.Mode, short bool) (bool, api.Errno) {
	if tx < 1 || !modes.Place(o) || mode < api.IS || mode > api.X || m.waits(tx) {
		return false, api.ErrLockForm
	}
	if had := m.had(tx, o, mode); len(had) > 0 {
		for _, i := range had {
			if r := &m.requests[i]; !short && r.Object == o && r.Mode == mode {
				r.Short = false
			}
		}
		return true, api.OK
	}
	if len(m.requests) == m.most {
		return false, api.ErrLockFull
	}
	m.requests = append(m.requests, api.Request{Tx: tx, Object: o, Mode: mode, Short: short})
	last := len(m.requests) - 1
	m.requests[last].Granted = m.mayBeGranted(last)
	return m.requests[last].Granted, api.OK
}

func (m *model) end(gone func(api.Request) bool) []int {
	var left []api.Request
	for _, r := range m.requests {
		if !gone(r) {
			left = append(left, r)
		}
	}
	m.requests = left
	var out []int
	for at := 0; at < len(m.requests); at++ {
		if m.mayBeGranted(at) {
			m.requests[at].Granted = true
			out = append(out, m.requests[at].Tx)
			// From the first one on again.
			at = -1
		}
	}
	return out
}

func (m *model) edges() [][2]int {
	var out [][2]int
	for at, r := range m.requests {
		if r.Granted {
			continue
		}
		for _, other := range m.against(at) {
			out = append(out, [2]int{r.Tx, other})
		}
	}
	return out
}

// sound asks what holds behind each call.
func sound(t *testing.T, x *Table) {
	t.Helper()
	list := x.List()
	m := &model{requests: list}
	if len(list) > api.MaxLocks {
		t.Fatalf("P11.1: there are %d requests", len(list))
	}
	leads := map[int]bool{}
	for _, e := range x.Edges() {
		leads[e[0]] = true
		if !x.Waits(e[0]) {
			t.Fatalf("P11.4: an edge leads from %d, which does not wait, in %v", e[0], list)
		}
	}
	for i, a := range list {
		if m.mayBeGranted(i) {
			t.Fatalf("P11.3: %v waits, and may be granted, in %v", a, list)
		}
		if !a.Granted && (!x.Waits(a.Tx) || !leads[a.Tx]) {
			t.Fatalf("P11.4: %v waits, but by Waits: %v, by Edges: %v, in %v", a, x.Waits(a.Tx), leads[a.Tx], list)
		}
		for _, b := range list[i+1:] {
			if !a.Granted && a.Tx == b.Tx {
				t.Fatalf("P11.1: %v waits, and %v came behind it", a, b)
			}
			if a.Granted && b.Granted && a.Tx != b.Tx && modes.Meet(a.Object, b.Object) && !modes.Fits(a.Mode, b.Mode) && !modes.Fits(b.Mode, a.Mode) {
				t.Fatalf("P11.2: %v and %v are granted", a, b)
			}
		}
	}
}

// pair is a table and its model, with which the same is done.
type pair struct {
	table *Table
	model *model
}

func newPair(t *testing.T, most int) pair {
	t.Helper()
	return pair{newTable(t, most), &model{most: most}}
}

// copied is another pair of the same requests.
func (p pair) copied() pair {
	return pair{
		&Table{p.table.most, slices.Clone(p.table.requests)},
		&model{p.model.most, slices.Clone(p.model.requests)},
	}
}

// same asks that the table is as its model.
func (p pair) same(t *testing.T) {
	t.Helper()
	if list := p.table.List(); !slices.Equal(list, p.model.requests) {
		t.Fatalf("P11.1: List: %v, not %v", list, p.model.requests)
	}
	if edges := p.table.Edges(); !slices.Equal(edges, p.model.edges()) {
		t.Fatalf("P11.1: Edges: %v, not %v, in %v", edges, p.model.edges(), p.model.requests)
	}
	sound(t, p.table)
}

func (p pair) ask(t *testing.T, tx int, o api.Object, m api.Mode, short bool) {
	t.Helper()
	has := len(p.model.had(tx, o, m)) > 0
	if p.table.Has(tx, o, m) != has {
		t.Fatalf("P11.1: Has(%d, %v, %d): %v, in %v", tx, o, m, !has, p.model.requests)
	}
	if p.table.Waits(tx) != p.model.waits(tx) {
		t.Fatalf("P11.1: Waits(%d): %v, in %v", tx, !p.model.waits(tx), p.model.requests)
	}
	want, errno := p.model.ask(tx, o, m, short)
	if is, e := p.table.Ask(tx, o, m, short); is != want || e != errno {
		t.Fatalf("P11.1: Ask(%d, %v, %d, %v): %v, %d, not %v, %d", tx, o, m, short, is, e, want, errno)
	}
	p.same(t)
}

func (p pair) end(t *testing.T, tx int, short bool) {
	t.Helper()
	call, name := p.table.End, "End"
	gone := func(r api.Request) bool { return r.Tx == tx }
	if short {
		call, name = p.table.EndShort, "EndShort"
		gone = func(r api.Request) bool { return r.Tx == tx && r.Granted && r.Short }
	}
	want := p.model.end(gone)
	if is := call(tx); !slices.Equal(is, want) {
		t.Fatalf("P11.1: %s(%d): %v, not %v", name, tx, is, want)
	}
	p.same(t)
}

// someObjects holds objects of which some meet, some lie within one another, some are not right.
func someObjects() []api.Object {
	return []api.Object{
		{}, whole("t"), whole("u"), one("a"), one("b"), keys("a", "b"), keys("b", "d"), from("a"), from("c"), keys("", "z"),
		{Space: 3, Table: "t", Lo: "a", Hi: "b"}, {Space: 3, Table: "t", Lo: "b", Hi: "b"}, {Space: 2, Table: "u", Lo: "a", End: true},
		{Space: 1}, {Space: 2, Table: "t", Lo: "b", Hi: "a"},
	}
}

func TestAgainstTheModel(t *testing.T) {
	objects := someObjects()
	for seed := range 60 {
		r := rand.New(rand.NewSource(int64(seed)))
		p := newPair(t, []int{1, 5, 20, 2000}[seed%4])
		// Few objects: much waits. Many of them: much is granted.
		some := objects[r.Intn(8):][:1+r.Intn(7)]
		txs := 2 + r.Intn(6)
		for range 600 {
			tx := r.Intn(txs + 1)
			switch call := r.Intn(20); {
			case call < 15:
				p.ask(t, tx, some[r.Intn(len(some))], api.Mode(r.Intn(8)), r.Intn(2) > 0)
			case call < 18:
				p.end(t, tx, true)
			default:
				p.end(t, tx, false)
			}
		}
	}
}

// All scripts of some steps, of three transactions and one object and its half.
func TestAllShortScripts(t *testing.T) {
	var steps []func(p pair)
	for tx := 1; tx <= 3; tx++ {
		for _, m := range []api.Mode{api.IX, api.S, api.U, api.X} {
			steps = append(steps, func(p pair) { p.ask(t, tx, keys("a", "b"), m, m == api.S) })
		}
		steps = append(steps,
			func(p pair) { p.ask(t, tx, one("b"), api.X, true) },
			func(p pair) { p.end(t, tx, false) },
			func(p pair) { p.end(t, tx, true) },
		)
	}
	var all func(p pair, left int)
	all = func(p pair, left int) {
		for _, step := range steps {
			next := p.copied()
			step(next)
			if left > 1 {
				all(next, left-1)
			}
		}
	}
	all(newPair(t, 3), 4)
}

// What a call answers hangs on the table's own calls alone.
func TestTablesBesideOneAnother(t *testing.T) {
	pairs := []pair{newPair(t, 2000), newPair(t, 2000), newPair(t, 8)}
	r := rand.New(rand.NewSource(5))
	for range 3000 {
		p := pairs[r.Intn(3)]
		if tx := 1 + r.Intn(6); r.Intn(4) > 0 {
			p.ask(t, tx, someObjects()[r.Intn(8)], api.Mode(1+r.Intn(6)), r.Intn(2) > 0)
		} else {
			p.end(t, tx, r.Intn(2) > 0)
		}
	}
	for _, p := range pairs {
		p.same(t)
	}
}

func FuzzAgainstTheModel(f *testing.F) {
	f.Add([]byte("\x00\x01\x13\x00\x02\x12\x00\x03\x11\x00\x04\x13\x0e\x01\x00"))
	f.Add([]byte("\x00\x01\x33\x00\x02\x33\x00\x03\x36\x00\x01\x36\x0d\x02\x00\x0f\x01\x00"))
	f.Fuzz(func(t *testing.T, script []byte) {
		p := newPair(t, 12)
		objects := someObjects()
		for ; len(script) > 2; script = script[3:] {
			call, tx, what := script[0]%16, int(script[1]%8), script[2]
			switch {
			case call < 13:
				p.ask(t, tx, objects[int(what/16)%len(objects)], api.Mode(what%16%8), what%16 > 7)
			default:
				p.end(t, tx, call == 15)
			}
		}
	})
}
