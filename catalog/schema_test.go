package catalog

import (
	"slices"
	"strings"
	"testing"

	"stile/api"
)

// full is a table of that name with something in each of its lists.
func full(name string, places ...int) api.Table {
	return api.Table{
		Name:    name,
		Columns: []api.Column{{Name: "a", Type: api.Type{Base: api.Integer}, NotNull: true}, {Name: "b", Type: api.Type{Base: api.Char, Len: 3}}},
		Indexes: []api.Index{{Cols: append([]int{0}, places...), Unique: true}, {Name: "i" + name, Cols: []int{1}}},
		Links:   []api.Link{{Cols: []int{0}, Table: name}},
		Checks:  []api.Node{{Op: "=", L: []api.Node{{Op: "col", S: "a"}, {Op: "num", N: 1}}}},
	}
}

func schemaNamed(names ...string) []api.Table {
	var l []api.Table
	for _, name := range names {
		l = append(l, full(name))
	}
	return l
}

func namesOf(l []api.Table) []string {
	var names []string
	for _, t := range l {
		names = append(names, t.Name)
	}
	return names
}

// someNames are names of schemas, rising.
func someNames() [][]string {
	return [][]string{nil, {"m"}, {"b", "m"}, {"b", "m", "mm"}, {"b", "m", "t", "z"}, {"", "A", "_", "a", "a1", "aa", "b", "\xff"}, {"a", "b", "c", "d", "e", "f", "g", "h"}}
}

// askedNames are names that are asked for, among them those ahead of, between and behind others.
func askedNames() []string {
	return []string{"", "A", "_", "a", "a0", "a1", "aa", "ab", "b", "bb", "c", "d", "h", "i", "m", "ma", "mm", "mmm", "n", "t", "z", "zz", "\xff", "\xff\xff", "M"}
}

func TestFind(t *testing.T) {
	for _, names := range someNames() {
		for _, name := range askedNames() {
			l := roomySchema(schemaNamed(names...))
			x, is := Find(l, name)
			if is != slices.Contains(names, name) {
				t.Errorf("P15.1: C1: Find(%q, %q): %v", names, name, is)
			}
			if is && !alike(x, full(name)) || !is && !nothing(x) {
				t.Errorf("P15.1: C1: Find(%q, %q): %+v", names, name, x)
			}
			spoil(&x)
			if !alikeAll(l, schemaNamed(names...)) || !schemaUntouched(l) {
				t.Errorf("P15.1: rule 4: Find(%q, %q): the schema is changed: %+v", names, name, l)
			}
		}
	}
}

func TestWith(t *testing.T) {
	for _, names := range someNames() {
		for _, name := range askedNames() {
			// Another table than the one of that name that is there.
			l, x := roomySchema(schemaNamed(names...)), roomySchema([]api.Table{full(name, 1)})
			want := slices.DeleteFunc(schemaNamed(names...), func(t api.Table) bool { return t.Name == name })
			want = append(want, full(name, 1))
			slices.SortFunc(want, func(a, b api.Table) int { return strings.Compare(a.Name, b.Name) })
			m := With(l, x[0])
			if !alikeAll(m, want) {
				t.Errorf("P15.1: C1: With(%q, %q): %q", names, name, namesOf(m))
			}
			isApart(t, "With", l, m, schemaNamed(names...))
			if !alike(x[0], full(name, 1)) || !schemaUntouched(x) {
				t.Errorf("P15.1: rule 4: With(%q, %q): the table is changed: %+v", names, name, x[0])
			}
		}
	}
}

func TestWithout(t *testing.T) {
	for _, names := range someNames() {
		for _, name := range askedNames() {
			l := roomySchema(schemaNamed(names...))
			want := slices.DeleteFunc(schemaNamed(names...), func(t api.Table) bool { return t.Name == name })
			m := Without(l, name)
			if !alikeAll(m, want) {
				t.Errorf("P15.1: C1: Without(%q, %q): %q", names, name, namesOf(m))
			}
			isApart(t, "Without", l, m, schemaNamed(names...))
		}
	}
}

// isApart holds that a schema that was handed out shares nothing with the one that was handed in, and none of its tables with another one.
func isApart(t *testing.T, call string, in, out, was []api.Table) {
	t.Helper()
	for at := range out {
		rest := deepSchema(out[at+1:])
		spoil(&out[at])
		if !alikeAll(out[at+1:], rest) {
			t.Errorf("P15.1: rule 4: %s: two tables share memory", call)
		}
	}
	_ = append(out, api.Table{Name: "spoilt"})
	if !alikeAll(in, was) || !schemaUntouched(in) {
		t.Errorf("P15.1: rule 4: %s: the schema is changed: %+v", call, in)
	}
}

// A schema grows in any order of its tables, and is rising all the time.
func TestWithInAnyOrder(t *testing.T) {
	for _, names := range [][]string{{"a", "b", "c", "d"}, {"d", "c", "b", "a"}, {"c", "a", "d", "b"}, {"b", "b", "a", "b"}} {
		var l []api.Table
		for i, name := range names {
			l = With(l, full(name, i))
			seen := slices.Clone(names[:i+1])
			slices.Sort(seen)
			if seen = slices.Compact(seen); !slices.Equal(namesOf(l), seen) {
				t.Errorf("P15.1: C1: With, table by table: %q, not %q", namesOf(l), seen)
			}
			if x, is := Find(l, name); !is || !alike(x, full(name, i)) {
				t.Errorf("P15.1: C1: With, then Find(%q): %+v, %v", name, x, is)
			}
		}
		for len(l) > 0 {
			name := l[len(l)/2].Name
			l = Without(l, name)
			if _, is := Find(l, name); is {
				t.Errorf("P15.1: C1: Without, then Find(%q): there", name)
			}
		}
	}
}
