package parse

import (
	"sort"
	"strings"
	"testing"

	"stile/api"
	"stile/lex"
)

// depthOf is a tree's depth, as the document says it.
func depthOf(n api.Node) int {
	depth := 0
	for _, part := range n.L {
		depth = max(depth, depthOf(part))
	}
	return 1 + depth
}

func TestDepth(t *testing.T) {
	leaf := api.Node{Op: "num", N: 7}
	for _, c := range []struct {
		tree api.Node
		want int
	}{
		{api.Node{}, 1}, {leaf, 1}, {api.Node{S: "a", N: -1, L: []api.Node{}}, 1},
		{api.Node{L: []api.Node{leaf}}, 2}, {api.Node{L: []api.Node{leaf, {}, leaf}}, 2},
		{api.Node{L: []api.Node{leaf, {L: []api.Node{leaf}}}}, 3}, {api.Node{L: []api.Node{{L: []api.Node{leaf}}, leaf}}, 3}, {api.Node{L: []api.Node{leaf, {L: []api.Node{leaf, {L: []api.Node{{}}}}}, leaf}}, 4},
	} {
		if is := Depth(c.tree); is != c.want {
			t.Errorf("P14.1: Depth of %v: %d, not %d", c.tree, is, c.want)
		}
	}
	for _, s := range oneOfEach {
		tree, _ := Parse(s)
		if is, want := Depth(tree), depthOf(tree); is != want {
			t.Errorf("P14.1: Depth of %s: %d, not %d", s, is, want)
		}
	}
}

// Parts of one list may be some of those of another, and the lists begin at one place.
func TestDepthOfPiecesOfLists(t *testing.T) {
	parts := []api.Node{{Op: "a"}, {Op: "b", L: []api.Node{{Op: "c"}}}}
	short, long := api.Node{L: parts[:1]}, api.Node{L: parts}
	for _, tree := range []api.Node{{L: []api.Node{short, long}}, {L: []api.Node{long, short}}, {L: []api.Node{{L: []api.Node{long}}, short}}, {L: []api.Node{short, {L: []api.Node{short, long}}}}} {
		if is, want := Depth(tree), depthOf(tree); is != want {
			t.Errorf("P14.1: Depth of %v: %d, not %d", tree, is, want)
		}
	}
}

func TestDepthOfGreatTrees(t *testing.T) {
	nested := api.Node{}
	for range 1<<16 - 1 {
		nested = api.Node{L: []api.Node{nested}}
	}
	if is := Depth(nested); is != 1<<16 {
		t.Errorf("P14.1: Depth of 65536 nested ones: %d", is)
	}
	// As a tree this has 2^100 leaves; as lists it has a hundred.
	shared := api.Node{}
	for range 100 {
		shared = api.Node{L: []api.Node{shared, shared}}
	}
	if is := Depth(shared); is != 101 {
		t.Errorf("P14.1: P1: Depth of what has each part twice: %d", is)
	}
	broad := api.Node{L: make([]api.Node, 200000)}
	broad.L[199999].L = []api.Node{{}}
	if is := Depth(broad); is != 3 {
		t.Errorf("P14.1: Depth of 200000 parts: %d", is)
	}
}

// deepens are ways to make a tree of that depth deeper by some, again and again: what stands ahead and behind each time, and by how much.
var deepens = []struct {
	ahead, inner, behind string
	by                   int
}{
	{"not ", "a", "", 1}, {"- ", "a", "", 1}, {"not (", "a", ")", 1}, {"-(", "a", ")", 1},
	{"", "a", " or b", 1}, {"", "a", " and b", 1}, {"", "a", " + b", 1}, {"", "a", " - b", 1}, {"", "a", " || b", 1}, {"", "a", " * b", 1}, {"", "a", " / b", 1},
	{"b or (", "a", ")", 1}, {"b and (", "a", ")", 1}, {"b - (", "a", ")", 1}, {"(", "a", ") = b", 1}, {"b < (", "a", ")", 1}, {"(", "a", ") is null", 1}, {"(", "a", ") is not null", 2}, {"(", "a", ") between 1 and 2", 1}, {"b like (", "a", ")", 1}, {"b in (1, ", "a", ")", 1}, {"b not in (", "a", ")", 2},
	{"coalesce(", "a", ")", 1}, {"nullif(1, ", "a", ")", 1}, {"cast(", "a", " as int)", 1}, {"sum(", "a", ")", 1}, {"count(distinct ", "a", ")", 1},
	{"case when ", "a", " then 1 end", 2}, {"case when 1 then ", "a", " end", 2}, {"case when 1 then 2 else ", "a", " end", 1}, {"case ", "a", " when 1 then 2 end", 3}, {"case ", "a", " when 1 then 2 when 3 then 4 else 5 end", 3}, {"case 1 when ", "a", " then 2 end", 3},
	{"(select ", "a", " from t)", 4}, {"(select 1 from t where ", "a", ")", 3}, {"exists (select 1 from t having ", "a", ")", 3}, {"b in (select 1 from t where ", "a", ")", 3}, {"b = any (select 1 from t where ", "a", ")", 3},
	{"(select 1 from t join u on ", "a", ")", 4}, {"(select 1 from (select 1 from t where ", "a", ") x)", 6},
}

// arounds are what an expression stands in.
var arounds = [][2]string{{"delete from t where ", ""}, {"update t set a = ", ""}, {"select 1 from t where ", ""}, {"insert into t values (", ")"}, {"create table t (a int check (", "))"}, {"select ", " from t"}, {"declare c cursor for select 1 from t having ", " order by 1"}}

// Of each way the deepest statement is read, and one that is deeper is told as too complex, unless it is none.
func TestDeepest(t *testing.T) {
	t.Parallel()
	for _, d := range deepens {
		for _, around := range arounds {
			nest := func(n int) string {
				return around[0] + strings.Repeat(d.ahead, n) + d.inner + strings.Repeat(d.behind, n) + around[1]
			}
			first, state := Parse(nest(1))
			if state != api.Done {
				t.Fatalf("P14.1: S1: %s: %s", nest(1), state)
			}
			for n := 1; n < 30; n++ {
				text, want := nest(n), depthOf(first)+(n-1)*d.by
				if want > 24 {
					tooDeep(t, text)
					continue
				}
				tree, state := Parse(text)
				if state != api.Done || Depth(tree) != want || depthOf(tree) != want {
					t.Errorf("P14.1: S1: %s: %s, depth %d, not %d", text, state, Depth(tree), want)
				}
			}
		}
	}
}

func tooDeep(t *testing.T, text string) {
	t.Helper()
	refuses(t, text, api.TooComplex)
	refuses(t, text+" ;", api.TooComplex)
	isSyntax(t, text+" )", text+" ;;", text+" 1", text+" select", "( "+text, text[:len(text)-1]+"(")
}

// The depths 24 and 25 of trees that are counted by hand.
func TestDepthsAtTheLimit(t *testing.T) {
	for _, c := range []struct{ ahead, again, behind string }{
		{"delete from t where a", " or b", ""},            // delete, where, 21 of or, col
		{"delete from t where ", "not ", "a"},             // the same with not
		{"delete from t where ", "- ", "a"},               // and with neg
		{"update t set a = a", " + 1", ""},                // update, set, 21 of +, col
		{"delete from t where ", "coalesce(", "CLOSE"},    // with as many ) behind
		{"select 1 from t where a", " and b", ""},         // query, select, where, 20 of and, col
		{"select 1 from t", " cross join t", ""},          // query, select, from, 19 of cross, table, as
		{"select 1 from t", " union select 1 from t", ""}, // query, 19 of union, select, items, item, num
	} {
		most := 21
		switch {
		case strings.Contains(c.again, "cross"), strings.Contains(c.again, "union"):
			most = 19
		case strings.Contains(c.again, "and"):
			most = 20
		}
		nest := func(n int) string {
			behind := c.behind
			if behind == "CLOSE" {
				behind = "a" + strings.Repeat(")", n)
			}
			return c.ahead + strings.Repeat(c.again, n) + behind
		}
		tree, state := Parse(nest(most))
		if state != api.Done || Depth(tree) != 24 {
			t.Errorf("P14.1: S1: %s: %s, depth %d, not 24", nest(most), state, Depth(tree))
		}
		tooDeep(t, nest(most+1))
	}
	reads(t, "delete from t where "+strings.Repeat("not ", 21)+"a", "delete:t(where("+strings.Repeat("not(", 21)+"col:a"+strings.Repeat(")", 21)+"))")
}

// As long as the text may be: each call ends, whatever it says.
func TestLongest(t *testing.T) {
	t.Parallel()
	for _, d := range deepens {
		for _, around := range arounds {
			nest := func(n int) string {
				return around[0] + strings.Repeat(d.ahead, n) + d.inner + strings.Repeat(d.behind, n) + around[1]
			}
			tooMany := sort.Search(1000, func(n int) bool {
				_, state := lex.Scan(nest(n))
				return state == api.TooLarge
			})
			refuses(t, nest(tooMany), api.TooLarge)
			for n := tooMany - 1; n > 30; n -= 1 + n/4 {
				refuses(t, nest(n), api.TooComplex)
				isSyntax(t, around[0]+strings.Repeat(d.ahead, n), around[0]+strings.Repeat(d.ahead, n)+")"+strings.Repeat(d.behind, n)+around[1])
			}
		}
	}
	for _, text := range []string{"(", ")", "not ", "- ", "case ", "case when ", "(select ", "((", "select ", "exists(", "a.", "a,", "a or ", "case a when ", "((select 1 from t) union ", "a in (", "(select 1 from ("} {
		for n := range 600 / len(strings.Fields(text)) {
			all := strings.Repeat(text, n)
			if len(all) > 1900 {
				break
			}
			for _, ahead := range []string{"", "delete from t where ", "select ", "select 1 from ", "insert into t "} {
				if _, state := Parse(ahead + all); state != api.Syntax && state != api.TooLarge {
					t.Errorf("P14.1: P1: %s%s: %s", ahead, all, state)
				}
			}
		}
	}
}

// Parentheses alone make no tree deeper.
func TestManyParentheses(t *testing.T) {
	for _, n := range []int{1, 2, 23, 24, 25, 100, 290} {
		open, shut := strings.Repeat("(", n), strings.Repeat(")", n)
		reads(t, "delete from t where "+open+"a"+shut, "delete:t(where(col:a))")
		reads(t, "select 1 from "+open+"t"+shut, from("table:t(as:t)"))
		reads(t, open+"select 1 from t"+shut, "query("+one+" order)")
		reads(t, "select 1 from "+open+"select 1 from t"+shut+" x", from("derived:x("+one+")"))
		reads(t, "delete from t where "+open+"select 1 from t"+shut, "delete:t(where(scalar("+one+")))")
		reads(t, "delete from t where a in "+open+"select 1 from t"+shut, "delete:t(where(in:query(col:a "+one+")))")
		reads(t, "delete from t where a in ("+open+"a"+shut+")", "delete:t(where(in(col:a col:a)))")
		reads(t, "insert into t "+open+"select 1 from t"+shut, "insert:t(columns "+one+")")
		reads(t, "create table t (check ("+open+"a"+shut+"))", "create table:t(check(col:a))")
		isSyntax(t, "delete from t where "+open+"a"+shut+")", "delete from t where ("+open+"a"+shut, "select 1 from ("+open+"t"+shut, open+"select 1 from t"+shut+")", "select 1 from "+open+"select 1 from t"+shut, "delete from t where "+open+shut)
	}
}

// A tree that is not too deep may have one part at very many places, as many as its CASEs have WHENs, each within the next: as a tree this one has more than 10^9 parts.
func TestManyCases(t *testing.T) {
	nest := func(cases, whens int) string {
		return "delete from t where " + strings.Repeat("case ", cases) + "a" + strings.Repeat(strings.Repeat(" when''then''", whens)+" end", cases)
	}
	tree, state := Parse(nest(7, 20))
	if state != api.Done || Depth(tree) != 24 {
		t.Fatalf("P14.1: P1: 7 cases of 20: %s, depth %d", state, Depth(tree))
	}
	at := tree.L[0].L[0]
	for i := range 7 {
		if at.Op != "case" || len(at.L) != 21 || at.L[20].Op != "null" {
			t.Fatalf("P14.1: case %d of 7: %s with %d parts", i, at.Op, len(at.L))
		}
		for _, when := range at.L[:20] {
			if when.Op != "when" || len(when.L) != 2 || when.L[0].Op != "=" || len(when.L[0].L) != 2 || show(when.L[0].L[1]) != "text" || show(when.L[1]) != "text" {
				t.Fatalf("P14.1: case %d of 7: a part %s", i, when.Op)
			}
		}
		at = at.L[i].L[0].L[0]
	}
	if show(at) != "col:a" {
		t.Errorf("P14.1: what is innermost: %s", show(at))
	}
	for cases := range 70 {
		for _, whens := range []int{1, 2, 3, 5, 10, 20} {
			text := nest(cases, whens)
			want := api.Done
			if cases > 7 {
				want = api.TooComplex
			}
			if len(text) > 2000 || 5+cases*(2+4*whens) > 600 {
				want = api.TooLarge
			}
			if _, state := Parse(text); state != want {
				t.Errorf("P14.1: P1: %d cases of %d: %s, not %s", cases, whens, state, want)
			}
		}
	}
}
