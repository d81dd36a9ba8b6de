package catalog

import (
	"reflect"
	"slices"
	"testing"

	"stile/api"
	"stile/parse"
)

func read(t *testing.T, text string) api.Node {
	t.Helper()
	n, state := parse.Parse(text)
	if state != api.Done {
		t.Fatalf("no statement: %s: %s", text, state)
	}
	return n
}

// deepTree is a copy of a tree that shares nothing with it; what is without elements is nil.
func deepTree(n api.Node) api.Node {
	return api.Node{Op: n.Op, S: n.S, N: n.N, L: deepTrees(n.L)}
}

func deepTrees(l []api.Node) []api.Node {
	var out []api.Node
	for _, n := range l {
		out = append(out, deepTree(n))
	}
	return out
}

func deepPlaces(l []int) []int {
	return append([]int(nil), l...)
}

// deep is likewise a copy of a table.
func deep(t api.Table) api.Table {
	out := api.Table{Name: t.Name, Columns: append([]api.Column(nil), t.Columns...), Checks: deepTrees(t.Checks)}
	for _, index := range t.Indexes {
		index.Cols = deepPlaces(index.Cols)
		out.Indexes = append(out.Indexes, index)
	}
	for _, link := range t.Links {
		link.Cols = deepPlaces(link.Cols)
		out.Links = append(out.Links, link)
	}
	return out
}

func deepSchema(l []api.Table) []api.Table {
	var out []api.Table
	for _, t := range l {
		out = append(out, deep(t))
	}
	return out
}

// alike tells whether two tables are the same; a list without elements is as nil.
func alike(a, b api.Table) bool {
	return reflect.DeepEqual(deep(a), deep(b))
}

func alikeAll(a, b []api.Table) bool {
	return reflect.DeepEqual(deepSchema(a), deepSchema(b))
}

func nothing(t api.Table) bool {
	return alike(t, api.Table{})
}

// mark is what stands behind the length of each list that is handed in.
const mark = "behind"

// roomy is a list, and an element behind its length.
func roomy[T any](l []T, behind T) []T {
	return append(slices.Clone(l), behind)[:len(l)]
}

func roomyTree(n api.Node) api.Node {
	parts := make([]api.Node, len(n.L))
	for i, part := range n.L {
		parts[i] = roomyTree(part)
	}
	n.L = roomy(parts, api.Node{Op: mark})
	return n
}

func roomySchema(l []api.Table) []api.Table {
	out := deepSchema(l)
	for i := range out {
		t := &out[i]
		for j := range t.Indexes {
			t.Indexes[j].Cols = roomy(t.Indexes[j].Cols, -77)
		}
		for j := range t.Links {
			t.Links[j].Cols = roomy(t.Links[j].Cols, -77)
		}
		t.Columns = roomy(t.Columns, api.Column{Name: mark})
		t.Indexes = roomy(t.Indexes, api.Index{Name: mark})
		t.Links = roomy(t.Links, api.Link{Table: mark})
		t.Checks = roomy(t.Checks, api.Node{Op: mark})
	}
	return roomy(out, api.Table{Name: mark})
}

// behindIs tells whether what stands behind the length of a list is still of that sort.
func behindIs[T any](l []T, is func(T) bool) bool {
	return is(l[: len(l)+1 : len(l)+1][len(l)])
}

func treeUntouched(n api.Node) bool {
	if !behindIs(n.L, func(n api.Node) bool { return n.Op == mark }) {
		return false
	}
	return !slices.ContainsFunc(n.L, func(part api.Node) bool { return !treeUntouched(part) })
}

func schemaUntouched(l []api.Table) bool {
	place := func(at int) bool { return at == -77 }
	for _, t := range l {
		for _, index := range t.Indexes {
			if !behindIs(index.Cols, place) {
				return false
			}
		}
		for _, link := range t.Links {
			if !behindIs(link.Cols, place) {
				return false
			}
		}
		if !behindIs(t.Columns, func(c api.Column) bool { return c.Name == mark }) || !behindIs(t.Indexes, func(x api.Index) bool { return x.Name == mark }) || !behindIs(t.Links, func(x api.Link) bool { return x.Table == mark }) || !behindIs(t.Checks, func(n api.Node) bool { return n.Op == mark }) {
			return false
		}
	}
	return behindIs(l, func(t api.Table) bool { return t.Name == mark })
}

// spoil writes into all lists of a table that was handed out, and behind them.
func spoil(t *api.Table) {
	for i := range t.Columns {
		t.Columns[i] = api.Column{Name: "spoilt"}
	}
	for i := range t.Indexes {
		spoilPlaces(t.Indexes[i].Cols)
		t.Indexes[i] = api.Index{Name: "spoilt"}
	}
	for i := range t.Links {
		spoilPlaces(t.Links[i].Cols)
		t.Links[i] = api.Link{Table: "spoilt"}
	}
	for i := range t.Checks {
		t.Checks[i] = api.Node{Op: "spoilt"}
	}
	_ = append(t.Columns, api.Column{Name: "spoilt"})
	_ = append(t.Indexes, api.Index{Name: "spoilt"})
	_ = append(t.Links, api.Link{Table: "spoilt"})
	_ = append(t.Checks, api.Node{Op: "spoilt"})
	t.Name = "spoilt"
}

func spoilPlaces(places []int) {
	for i := range places {
		places[i] = -88
	}
	_ = append(places, -88)
}

// listsApart tells whether no two lists of places of a table share memory.
func listsApart(t api.Table) bool {
	var lists [][]int
	for _, index := range t.Indexes {
		lists = append(lists, index.Cols)
	}
	for _, link := range t.Links {
		lists = append(lists, link.Cols)
	}
	for i, list := range lists {
		for j := range list[:cap(list)] {
			list[:cap(list)][j] = i
		}
	}
	for i, list := range lists {
		for _, is := range list[:cap(list)] {
			if is != i {
				return false
			}
		}
	}
	return true
}

// calls are all calls with a schema and a tree: what they answer as one table and one state.
func calls() map[string]func([]api.Table, api.Node) (api.Table, api.State) {
	return map[string]func([]api.Table, api.Node) (api.Table, api.State){
		"Define": Define, "Index": Index, "DropIndex": DropIndex,
		"DropTable": func(l []api.Table, n api.Node) (api.Table, api.State) { return api.Table{}, DropTable(l, n) },
	}
}

// asked is what a call answers; it holds that nothing that is handed in is changed, neither by the call nor by writing into what it hands out, and that the same is answered again.
func asked(t *testing.T, name string, l []api.Table, n api.Node) (api.Table, api.State) {
	t.Helper()
	call := calls()[name]
	schema, tree := roomySchema(l), roomyTree(n)
	first, state := call(schema, tree)
	kept := deep(first)
	if state != api.Done && !nothing(first) {
		t.Errorf("P15.1: %s: a table beside %s", name, state)
	}
	second, again := call(schema, tree)
	if again != state || !alike(first, second) {
		t.Errorf("P15.1: P2: %s: another answer when asked again: %+v, %s; %+v, %s", name, first, state, second, again)
	}
	spoil(&first)
	if !alike(second, kept) {
		t.Errorf("P15.1: rule 4: %s: two answers share memory: %+v", name, second)
	}
	if !listsApart(second) {
		t.Errorf("P15.1: rule 4: %s: two lists of one answer share memory: %+v", name, kept)
	}
	if !alikeAll(schema, l) || !schemaUntouched(schema) {
		t.Errorf("P15.1: rule 4: %s: the schema is changed: %+v", name, schema)
	}
	if !reflect.DeepEqual(deepTree(tree), deepTree(n)) || !treeUntouched(tree) {
		t.Errorf("P15.1: rule 4: %s: the tree is changed: %+v", name, tree)
	}
	return kept, state
}

// schemaOf is a schema of tables that are defined one behind the other.
func schemaOf(t *testing.T, texts ...string) []api.Table {
	t.Helper()
	var l []api.Table
	for _, text := range texts {
		n := read(t, text)
		call := "Define"
		if n.Op == "create index" {
			call = "Index"
		}
		x, state := asked(t, call, l, n)
		if state != api.Done {
			t.Fatalf("P15.1: %s: %s", text, state)
		}
		l = With(l, x)
	}
	return l
}

// tells holds a call to a state.
func tells(t *testing.T, call string, l []api.Table, text string, want api.State) api.Table {
	t.Helper()
	x, state := asked(t, call, l, read(t, text))
	if state != want {
		t.Errorf("P15.1: %s: %s: %s, not %s", call, text, state, want)
	}
	return x
}

// makes holds a call to a table.
func makes(t *testing.T, call string, l []api.Table, text string, want api.Table) {
	t.Helper()
	if x := tells(t, call, l, text, api.Done); !alike(x, want) {
		t.Errorf("P15.1: %s: %s:\nis  %+v\nnot %+v", call, text, x, want)
	}
}
