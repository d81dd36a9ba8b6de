package eval

import (
	"math"
	"reflect"
	"slices"
	"strconv"
	"strings"
	"testing"

	"stile/api"
	"stile/parse"
)

var null api.Value

func num(n int64) api.Value { return api.Value{Kind: api.Num, N: n} }

func text(s string) api.Value { return api.Value{Kind: api.Text, S: s} }

func boolean(b bool) api.Value { return api.Value{Kind: api.Bool, B: b} }

// truths holds the values that have a truth, in the order of their truths.
func truths() []api.Value { return []api.Value{boolean(false), null, boolean(true)} }

// samples holds values of all kinds.
func samples() []api.Value {
	return []api.Value{
		null, boolean(false), boolean(true),
		num(0), num(1), num(-1), num(2), num(7), num(math.MaxInt64), num(math.MinInt64), num(math.MaxInt64 - 1),
		text(""), text(" "), text("a"), text("a "), text("ab"), text("A"), text("%"), text("_"), text("a%"), text("1"), text("true"), text("\x00\xff"),
		text(strings.Repeat("x", api.MaxString)),
	}
}

func node(op string, parts ...api.Node) api.Node { return api.Node{Op: op, L: parts} }

func named(op, s string, parts ...api.Node) api.Node { return api.Node{Op: op, S: s, L: parts} }

// leaf is the tree that comes to a value.
func leaf(v api.Value) api.Node {
	switch v.Kind {
	case api.Num:
		return api.Node{Op: "num", N: v.N}
	case api.Text:
		return api.Node{Op: "text", S: v.S}
	case api.Bool:
		if v.B {
			return api.Node{Op: "bool", N: 1}
		}
		return api.Node{Op: "bool"}
	}
	return api.Node{Op: "null"}
}

func leaves(l ...api.Value) []api.Node {
	var trees []api.Node
	for _, v := range l {
		trees = append(trees, leaf(v))
	}
	return trees
}

// probe is a tree that asks run, so that it shows whether it is asked.
func probe(name string) api.Node { return node("scalar", named("select", name)) }

// reply is what run answers to a body.
type reply struct {
	rows  []api.Row
	state api.State
}

func one(v api.Value) reply { return reply{[]api.Row{{v}}, api.Done} }

func column(l ...api.Value) reply {
	answer := reply{state: api.Done}
	for _, v := range l {
		answer.rows = append(answer.rows, api.Row{v})
	}
	return answer
}

func wrong(state api.State) reply { return reply{nil, state} }

// script answers bodies by their names, and keeps in which order they are asked.
type script struct {
	replies map[string]reply
	asked   []string
}

func (s *script) run(body api.Node, rows []api.Row) ([]api.Row, api.State) {
	name := bodyName(body)
	s.asked = append(s.asked, name)
	answer, is := s.replies[name]
	if !is {
		panic("nobody knows " + name)
	}
	return answer.rows, answer.state
}

// bodyName is a probe's name, or that of the first table of a query that was written out.
func bodyName(body api.Node) string {
	for body.S == "" && len(body.L) > 0 {
		at := 0
		if body.Op == "select" {
			at = 1
		}
		body = body.L[at]
	}
	return body.S
}

// tree is an expression's tree: its column p1 is a probe, s1001 a slot.
func tree(t testing.TB, expression string) api.Node {
	t.Helper()
	n, state := parse.Parse("delete from t where " + expression)
	if state != api.Done {
		t.Fatalf("no expression: %s: %s", expression, state)
	}
	return placed(n.L[0].L[0], map[*api.Node]int{})
}

// placed is a tree with probes and slots for its columns. Lists of parts that stand at many places are gone over once.
func placed(n api.Node, gone map[*api.Node]int) api.Node {
	if n.Op == "col" {
		if at, err := strconv.ParseInt(n.S[1:], 10, 64); n.S[0] == 's' && err == nil {
			return api.Node{Op: "slot", N: at}
		}
		return probe(n.S)
	}
	if n.Op == "select" || len(n.L) == 0 || gone[&n.L[0]] > 0 {
		return n
	}
	gone[&n.L[0]]++
	for i := range n.L {
		n.L[i] = placed(n.L[i], gone)
	}
	return n
}

// copied shares nothing with a tree.
func copied(n api.Node) api.Node {
	out := n
	out.L = nil
	for _, part := range n.L {
		out.L = append(out.L, copied(part))
	}
	return out
}

func copiedRows(rows []api.Row) []api.Row {
	var out []api.Row
	for _, row := range rows {
		out = append(out, slices.Clone(row))
	}
	return out
}

func sameRows(a, b []api.Row) bool {
	return slices.EqualFunc(a, b, func(x, y api.Row) bool { return slices.Equal(x, y) })
}

func sameTree(a, b api.Node) bool {
	return a.Op == b.Op && a.S == b.S && a.N == b.N && slices.EqualFunc(a.L, b.L, sameTree)
}

// show is a tree as a text.
func show(n api.Node) string {
	shown := n.Op
	if n.S != "" {
		shown += " " + strconv.Quote(n.S)
	}
	if n.N != 0 {
		shown += " " + strconv.FormatInt(n.N, 10)
	}
	if len(n.L) == 0 {
		return shown
	}
	var parts []string
	for _, part := range n.L {
		parts = append(parts, show(part))
	}
	return shown + " (" + strings.Join(parts, ", ") + ")"
}

// is holds what a tree comes to against what it must.
func is(t *testing.T, promise string, n api.Node, rows []api.Row, run Run, want api.Value, state api.State) {
	t.Helper()
	if got, s := Value(n, rows, run); got != want || s != state {
		t.Errorf("%s: %s: %v, %s, not %v, %s", promise, show(n), got, s, want, state)
	}
}

// asks holds a script's questions, besides the answer, against those that must be asked.
func asks(t *testing.T, promise, expression string, replies map[string]reply, want api.Value, state api.State, asked ...string) {
	t.Helper()
	s := &script{replies: replies}
	n := tree(t, expression)
	is(t, promise, n, nil, s.run, want, state)
	if !slices.Equal(s.asked, asked) {
		t.Errorf("%s: %s: asked were %v, not %v", promise, expression, s.asked, asked)
	}
}

func TestHelp(t *testing.T) {
	want := node("=", api.Node{Op: "slot", N: 1001}, probe("p1"))
	if got := tree(t, "s1001 = p1"); !reflect.DeepEqual(got, want) {
		t.Errorf("%s", show(got))
	}
	if got := bodyName(tree(t, "exists (select 1 from (select 2 from deep) as x union select 3 from other)").L[0]); got != "x" {
		t.Errorf("%s", got)
	}
}

func replaced(around, with string) string { return strings.ReplaceAll(around, "#", with) }

// normal is a tree whose lists without parts are nil.
func normal(n api.Node) api.Node { return copied(n) }
