package eval

import (
	"math/rand"
	"slices"
	"testing"

	"stile/api"
	"stile/types"
	"stile/value"
)

// model is E1 written out once more: each step hands on its state, and truths are the numbers 0, 1, 2.
type model struct {
	rows []api.Row
	run  Run
}

func (m model) value(n api.Node) (api.Value, api.State) {
	k := len(n.L)
	switch n.Op {
	case "slot", "num", "text", "bool", "null":
		if k != 0 {
			return null, api.Syntax
		}
		return m.leaf(n), api.Done
	case "+", "-", "*", "/", "||", "=", "<>", "<", "<=", ">", ">=", "like", "nullif":
		if k != 2 {
			return null, api.Syntax
		}
		return m.two(n)
	case "and", "or":
		if k != 2 {
			return null, api.Syntax
		}
		return m.logic(n)
	case "neg", "not", "is":
		if k != 1 || n.Op == "is" && !slices.Contains([]string{"null", "true", "false", "unknown"}, n.S) {
			return null, api.Syntax
		}
		return m.lone(n)
	case "between":
		if k != 3 {
			return null, api.Syntax
		}
		return m.between(n)
	case "case":
		if k < 2 {
			return null, api.Syntax
		}
		return m.choice(n.L)
	case "coalesce":
		if k < 1 {
			return null, api.Syntax
		}
		return m.coalesce(n.L)
	case "cast":
		if k != 2 || n.L[0].Op != "type" || len(n.L[0].L) > 0 {
			return null, api.Syntax
		}
		return m.cast(n)
	case "in":
		if k < 2 || n.S == "query" && k != 2 {
			return null, api.Syntax
		}
		if n.S != "query" {
			return m.list(n.L)
		}
		return m.search(n.L, "=", false)
	case "any", "all":
		if k != 2 {
			return null, api.Syntax
		}
		return m.search(n.L, n.S, n.Op == "all")
	case "exists", "scalar":
		if k != 1 {
			return null, api.Syntax
		}
		return m.query(n)
	}
	return null, api.Syntax
}

func (m model) leaf(n api.Node) api.Value {
	switch n.Op {
	case "num":
		return num(n.N)
	case "text":
		return text(n.S)
	case "bool":
		return boolean(n.N != 0)
	case "slot":
		for scope, row := range m.rows {
			for place, v := range row {
				if int64(1000*scope+place) == n.N && place < 1000 {
					return v
				}
			}
		}
	}
	return null
}

// truth is 0 for false, 1 for unknown, 2 for true.
func (m model) truth(n api.Node) (int, api.State) {
	v, state := m.value(n)
	switch {
	case state != api.Done:
		return 1, state
	case v.Kind == api.Null:
		return 1, api.Done
	case v.Kind != api.Bool:
		return 1, api.Mismatch
	case v.B:
		return 2, api.Done
	}
	return 0, api.Done
}

func valueOf(truth int) api.Value {
	return [3]api.Value{boolean(false), null, boolean(true)}[truth]
}

func test(sign string, a, b api.Value) (int, api.State) {
	truth, state := value.Test(sign, a, b)
	return map[api.Truth]int{api.False: 0, api.Unknown: 1, api.True: 2}[truth], state
}

func (m model) all(l []api.Node) ([]api.Value, api.State) {
	var out []api.Value
	for _, n := range l {
		v, state := m.value(n)
		if state != api.Done {
			return nil, state
		}
		out = append(out, v)
	}
	return out, api.Done
}

func (m model) two(n api.Node) (api.Value, api.State) {
	v, state := m.all(n.L)
	if state != api.Done {
		return null, state
	}
	switch n.Op {
	case "+":
		return value.Add(v[0], v[1])
	case "-":
		return value.Sub(v[0], v[1])
	case "*":
		return value.Mul(v[0], v[1])
	case "/":
		return value.Div(v[0], v[1])
	case "||":
		return value.Concat(v[0], v[1])
	case "like":
		if v[0] == null || v[1] == null {
			return null, api.Done
		}
		if v[0].Kind != api.Text || v[1].Kind != api.Text {
			return null, api.Mismatch
		}
		return boolean(value.Like(v[0].S, v[1].S)), api.Done
	case "nullif":
		equal, state := test("=", v[0], v[1])
		if state != api.Done || equal == 2 {
			return null, state
		}
		return v[0], api.Done
	}
	truth, state := test(n.Op, v[0], v[1])
	return valueOf(truth), state
}

func (m model) logic(n api.Node) (api.Value, api.State) {
	enough := map[string]int{"and": 0, "or": 2}[n.Op]
	a, state := m.truth(n.L[0])
	if state != api.Done || a == enough {
		return valueOf(a), state
	}
	b, state := m.truth(n.L[1])
	if state != api.Done {
		return null, state
	}
	if n.Op == "and" {
		return valueOf(min(a, b)), api.Done
	}
	return valueOf(max(a, b)), api.Done
}

func (m model) lone(n api.Node) (api.Value, api.State) {
	v, state := m.value(n.L[0])
	if state != api.Done {
		return null, state
	}
	if n.Op == "neg" {
		return value.Neg(v)
	}
	if n.Op == "is" && n.S == "null" {
		return boolean(v == null), api.Done
	}
	if v.Kind != api.Bool && v != null {
		return null, api.Mismatch
	}
	if n.Op == "is" {
		return boolean(v == map[string]api.Value{"true": boolean(true), "false": boolean(false)}[n.S]), api.Done
	}
	if v == null {
		return null, api.Done
	}
	return boolean(!v.B), api.Done
}

func (m model) between(n api.Node) (api.Value, api.State) {
	v, state := m.all(n.L)
	if state != api.Done {
		return null, state
	}
	low, state := test(">=", v[0], v[1])
	if state != api.Done {
		return null, state
	}
	high, state := test("<=", v[0], v[2])
	if state != api.Done {
		return null, state
	}
	return valueOf(min(low, high)), api.Done
}

func (m model) choice(l []api.Node) (api.Value, api.State) {
	if len(l) == 1 {
		return m.value(l[0])
	}
	if l[0].Op != "when" || len(l[0].L) != 2 {
		return null, api.Syntax
	}
	holds, state := m.truth(l[0].L[0])
	if state != api.Done {
		return null, state
	}
	if holds == 2 {
		return m.value(l[0].L[1])
	}
	return m.choice(l[1:])
}

func (m model) coalesce(l []api.Node) (api.Value, api.State) {
	v, state := m.value(l[0])
	if state != api.Done || v.Kind != api.Null || len(l) == 1 {
		return v, state
	}
	return m.coalesce(l[1:])
}

func (m model) cast(n api.Node) (api.Value, api.State) {
	v, state := m.value(n.L[1])
	if state != api.Done {
		return null, state
	}
	bases := map[string]api.Base{"smallint": api.Small, "integer": api.Integer, "bigint": api.Big, "boolean": api.Boolean, "char": api.Char, "varchar": api.Varchar}
	return types.Cast(v, api.Type{Base: bases[n.L[0].S], Len: int(n.L[0].N)})
}

func (m model) list(l []api.Node) (api.Value, api.State) {
	held, state := m.value(l[0])
	if state != api.Done {
		return null, state
	}
	found := 0
	for _, n := range l[1:] {
		v, state := m.value(n)
		if state != api.Done {
			return null, state
		}
		truth, state := test("=", held, v)
		if state != api.Done {
			return null, state
		}
		if truth == 2 {
			return boolean(true), api.Done
		}
		found = max(found, truth)
	}
	return valueOf(found), api.Done
}

func (m model) search(l []api.Node, sign string, all bool) (api.Value, api.State) {
	held, state := m.value(l[0])
	if state != api.Done {
		return null, state
	}
	rows, state := m.run(l[1], m.rows)
	if state != api.Done {
		return null, state
	}
	least, most := 2, 0
	for _, row := range rows {
		truth, state := test(sign, held, append(slices.Clone(row), null)[0])
		if state != api.Done {
			return null, state
		}
		least, most = min(least, truth), max(most, truth)
	}
	if all {
		return valueOf(least), api.Done
	}
	return valueOf(most), api.Done
}

func (m model) query(n api.Node) (api.Value, api.State) {
	rows, state := m.run(n.L[0], m.rows)
	switch {
	case state != api.Done:
		return null, state
	case n.Op == "exists":
		return boolean(len(rows) > 0), api.Done
	case len(rows) > 1:
		return null, api.Cardinal
	case len(rows) == 0 || len(rows[0]) == 0:
		return null, api.Done
	}
	return rows[0][0], api.Done
}

// maker makes trees at random: most of them of the kind that is asked for, few of them none at all.
type maker struct {
	r *rand.Rand
	// wild is how many of a thousand choices are bad ones.
	wild int
}

func (m maker) pick(l ...string) string { return l[m.r.Intn(len(l))] }

func (m maker) expr(kind api.Kind, depth int) api.Node {
	if m.r.Intn(1000) < m.wild {
		kind = api.Kind(m.r.Intn(4))
	}
	if m.r.Intn(1000) < m.wild {
		return m.junk(depth)
	}
	if depth == 0 || m.r.Intn(6) == 0 {
		return m.end(kind)
	}
	if m.r.Intn(4) == 0 {
		return m.any(kind, depth-1)
	}
	switch kind {
	case api.Num:
		if m.r.Intn(6) == 0 {
			return node("neg", m.expr(api.Num, depth-1))
		}
		return node(m.pick("+", "-", "*", "/"), m.exprs(api.Num, depth-1, 2)...)
	case api.Text:
		return node("||", m.exprs(api.Text, depth-1, 2)...)
	case api.Bool:
		return m.condition(depth - 1)
	}
	return m.expr(api.Kind(m.r.Intn(4)), depth-1)
}

func (m maker) exprs(kind api.Kind, depth, count int) []api.Node {
	if m.r.Intn(1000) < m.wild {
		count += m.r.Intn(5) - 2
	}
	var l []api.Node
	for range count {
		l = append(l, m.expr(kind, depth))
	}
	return l
}

func (m maker) end(kind api.Kind) api.Node {
	switch m.r.Intn(8) {
	case 0:
		return leaf(null)
	case 1, 2:
		// Of each scope the first places hold null, a number, a text and a truth value, and the next ones too.
		return api.Node{Op: "slot", N: int64(1000*m.r.Intn(3) + int(kind) + 4*m.r.Intn(3))}
	}
	switch kind {
	case api.Num:
		return leaf(num([]int64{0, 1, 2, 3, -1, 1 << 62, -1 << 63}[m.r.Intn(7)]))
	case api.Text:
		return leaf(text(m.pick("", "a", "a ", "b", "ab", "%", "a_", "1", "true")))
	case api.Bool:
		return api.Node{Op: "bool", N: int64(m.r.Intn(2))}
	}
	return leaf(null)
}

// any is an expression whose kind is that of its parts.
func (m maker) any(kind api.Kind, depth int) api.Node {
	switch m.r.Intn(5) {
	case 0:
		return node("coalesce", m.exprs(kind, depth, 1+m.r.Intn(4))...)
	case 1:
		return node("nullif", m.exprs(kind, depth, 2)...)
	case 2:
		of := named("type", m.pick("smallint", "integer", "bigint"))
		switch kind {
		case api.Text:
			of = api.Node{Op: "type", S: m.pick("char", "varchar"), N: int64(m.r.Intn(5))}
		case api.Bool:
			of = named("type", "boolean")
		}
		return node("cast", of, m.expr(api.Kind(m.r.Intn(4)), depth))
	case 3:
		return node("scalar", m.body(kind))
	}
	var l []api.Node
	for range 1 + m.r.Intn(3) {
		l = append(l, node("when", m.expr(api.Bool, depth), m.expr(kind, depth)))
	}
	return node("case", append(l, m.expr(kind, depth))...)
}

func (m maker) condition(depth int) api.Node {
	kind := api.Kind(1 + m.r.Intn(3))
	sign := m.pick(signs()...)
	switch m.r.Intn(13) {
	case 0, 1:
		return node("and", m.exprs(api.Bool, depth, 2)...)
	case 2, 3:
		return node("or", m.exprs(api.Bool, depth, 2)...)
	case 4:
		return node("not", m.expr(api.Bool, depth))
	case 5:
		return named("is", "null", m.expr(kind, depth))
	case 6:
		return named("is", m.pick("true", "false", "unknown", "unknown", "null"), m.expr(api.Bool, depth))
	case 7:
		return node("between", m.exprs(kind, depth, 3)...)
	case 8:
		return node("in", m.exprs(kind, depth, 2+m.r.Intn(4))...)
	case 9:
		return node("like", m.exprs(api.Text, depth, 2)...)
	case 10:
		return node("exists", m.body(kind))
	case 11:
		return named(m.pick("any", "all"), sign, m.expr(kind, depth), m.body(kind))
	}
	if m.r.Intn(3) == 0 {
		return named("in", "query", m.expr(kind, depth), m.body(kind))
	}
	return node(sign, m.exprs(kind, depth, 2)...)
}

// body is a query of which run knows by its S and N what to answer.
func (m maker) body(kind api.Kind) api.Node {
	return api.Node{Op: "select", S: m.pick("", "x"), N: int64(int(kind) + 4*m.r.Intn(12))}
}

func (m maker) junk(depth int) api.Node {
	if depth == 0 {
		return named(m.pick("zz", "col", "when", "=", "and", "case", "sum", "slot"), m.pick("", "null"))
	}
	op := m.pick("zz", "slot", "num", "+", "=", "and", "is", "between", "in", "case", "when", "coalesce", "cast", "exists", "any", "type", "null")
	n := named(op, m.pick("", "null", "query", "=", "zz"), m.exprs(api.Kind(m.r.Intn(4)), depth-1, m.r.Intn(4))...)
	n.N = int64(m.r.Intn(5) - 2)
	return n
}

// rows has in each scope nulls, numbers, texts and truth values in turn.
func (m maker) rows() []api.Row {
	var rows []api.Row
	for range m.r.Intn(4) {
		var row api.Row
		for i := range m.r.Intn(13) {
			row = append(row, m.of(api.Kind(i%4)))
		}
		rows = append(rows, row)
	}
	return rows
}

// pool is what values of a kind are taken from.
var pool = samples()

func (m maker) of(kind api.Kind) api.Value {
	for {
		v := pool[m.r.Intn(len(pool))]
		if v.Kind == kind || m.r.Intn(60) == 0 {
			return v
		}
	}
}

// answers has for each N of a body the rows that are told of it.
func answers() [][]api.Row {
	r := rand.New(rand.NewSource(20))
	l := make([][]api.Row, 48)
	for at := range l {
		for range at / 8 {
			l[at] = append(l[at], api.Row{maker{r, 0}.of(api.Kind(at % 4)), num(1)})
		}
	}
	l[9] = append(l[9], api.Row{})
	l[13] = []api.Row{{}}
	return l
}

// answering is a run whose answers hang on the body, and keeps what it was asked.
func answering(answers [][]api.Row, asked *[]api.Node) Run {
	return func(body api.Node, rows []api.Row) ([]api.Row, api.State) {
		*asked = append(*asked, body)
		switch {
		case body.N < 0 || body.N >= 44:
			return []api.Row{{num(1)}}, api.NoRoom
		case body.N >= 40 && len(rows) > 0:
			return rows, api.Done
		}
		return answers[body.N], api.Done
	}
}

func TestAgainstModel(t *testing.T) {
	r := rand.New(rand.NewSource(1717))
	known, count := answers(), map[api.State]int{}
	for i := range 100000 {
		m := maker{r, []int{0, 5, 50, 200}[i%4]}
		n, rows := m.expr(api.Kind(1+r.Intn(3)), 1+r.Intn(5)), m.rows()
		var asked, wanted []api.Node
		want, state := model{rows, answering(known, &wanted)}.value(n)
		if state != api.Done {
			want = null
		}
		got, s := Value(n, rows, answering(known, &asked))
		if got != want || s != state {
			t.Fatalf("P17.1: %s in %v: %v, %s, not %v, %s", show(n), rows, got, s, want, state)
		}
		if !slices.EqualFunc(asked, wanted, sameTree) {
			t.Fatalf("P17.2: %s in %v: asked were %d queries, not %d", show(n), rows, len(asked), len(wanted))
		}
		wantTruth, state := model{rows, answering(known, &wanted)}.truth(n)
		if truth, s := Truth(n, rows, answering(known, &asked)); int(truth) != wantTruth || s != state {
			t.Fatalf("P17.1: %s in %v: truth %d, %s, not %d, %s", show(n), rows, truth, s, wantTruth, state)
		}
		count[state]++
	}
	for _, state := range []api.State{api.Done, api.Syntax, api.Mismatch, api.Zero, api.OutOfRange, api.Cardinal, api.NoRoom, api.BadCast, api.TooLong} {
		if count[state] < 50 {
			t.Errorf("just %d of the trees came to %s", count[state], state)
		}
	}
	t.Log(count)
}
