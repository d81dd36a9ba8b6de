package parse

import (
	"math/rand"
	"reflect"
	"strconv"
	"strings"
	"testing"

	"stile/api"
	"stile/lex"
)

// writer makes trees as the document tells them, and writes each as a statement that must be read as that tree.
type writer struct {
	r    *rand.Rand
	left int // how many parts may be made still, ere the plainest are
}

// unwritable is thrown where a tree has no text: what begins with a query in parentheses may not stand in parentheses itself.
type unwritable struct{}

func (w *writer) one(of ...string) string { return of[w.r.Intn(len(of))] }

func (w *writer) name() string { return w.one("a", "b", "c", "t", "u", "x_1", "_y") }

func (w *writer) coin() bool { return w.r.Intn(2) == 0 }

// maybe is a text, or nothing.
func (w *writer) maybe(s string) string {
	if w.coin() {
		return s
	}
	return ""
}

// bit is 1 and one text, or 0 and another.
func (w *writer) bit(one, nought string) (int64, string) {
	if w.coin() {
		return 1, one
	}
	return 0, nought
}

func tree(op, s string, n int64, parts ...api.Node) api.Node {
	return api.Node{Op: op, S: s, N: n, L: parts}
}

// several makes from 1 to 3 parts, with commas between.
func (w *writer) several(part func() (api.Node, string)) ([]api.Node, string) {
	var parts []api.Node
	var texts []string
	for range 1 + w.r.Intn(3) {
		n, s := part()
		parts, texts = append(parts, n), append(texts, s)
	}
	return parts, strings.Join(texts, " , ")
}

// beginsBody tells whether a "(" ahead of the text would be a body's.
func beginsBody(text string) bool {
	return strings.HasPrefix(strings.TrimLeft(text, "( "), "select ")
}

// within puts a text in parentheses that are no body's.
func within(text string) string {
	if beginsBody(text) {
		panic(unwritable{})
	}
	return "( " + text + " )"
}

// The levels of expressions, from what binds least.
const (
	orLevel = iota
	andLevel
	notLevel
	testLevel
	sumLevel
	productLevel
	signLevel
)

// expr makes an expression and writes it where something of a level may stand.
func (w *writer) expr(level int) (api.Node, string) {
	n, s, own := w.plainExpr()
	if own < level || w.r.Intn(12) == 0 {
		return n, within(s)
	}
	return n, s
}

func (w *writer) plainExpr() (api.Node, string, int) {
	w.left--
	if w.left < 0 {
		n, s := w.operand()
		return n, s, signLevel
	}
	switch w.r.Intn(9) {
	case 0:
		return w.pair("or", orLevel, andLevel)
	case 1:
		return w.pair("and", andLevel, notLevel)
	case 2:
		n, s := w.expr(notLevel)
		return tree("not", "", 0, n), "not " + s, notLevel
	case 3:
		return w.test()
	case 4:
		return w.pair(w.one("+", "-", "||"), sumLevel, productLevel)
	case 5:
		return w.pair(w.one("*", "/"), productLevel, signLevel)
	case 6:
		n, s := w.expr(signLevel)
		return tree("neg", "", 0, n), "- " + s, signLevel
	case 7:
		n, s := w.call()
		return n, s, signLevel
	}
	n, s := w.operand()
	return n, s, signLevel
}

// pair is two with a word or sign between, which binds from the left on.
func (w *writer) pair(op string, own, second int) (api.Node, string, int) {
	a, aText := w.expr(own)
	b, bText := w.expr(second)
	return tree(op, "", 0, a, b), aText + " " + op + " " + bText, own
}

func (w *writer) operand() (api.Node, string) {
	switch w.r.Intn(6) {
	case 0:
		n := w.r.Int63n(1000)
		return tree("num", "", n), strconv.FormatInt(n, 10)
	case 1:
		s := w.one("", "x", "It's", "select", "( select", " ; --")
		return tree("text", s, 0), "'" + strings.ReplaceAll(s, "'", "''") + "'"
	case 2:
		n, s := w.bit("true", "false")
		return tree("bool", "", n), s
	case 3:
		return tree("null", "", 0), "null"
	}
	return w.column()
}

func (w *writer) column() (api.Node, string) {
	name := w.name()
	if w.coin() {
		return tree("col", name, 0), name
	}
	of := w.name()
	return tree("col", name, 0, tree("of", of, 0)), of + " . " + name
}

// test is one of the tests; what NOT turns around may be written with NOT within it, or ahead of it.
func (w *writer) test() (api.Node, string, int) {
	first, firstText := w.expr(sumLevel)
	not, notText := w.bit("not ", "")
	var n api.Node
	var s string
	switch w.r.Intn(6) {
	case 0:
		b, text := w.expr(sumLevel)
		sign := w.one("=", "<>", "<", "<=", ">", ">=")
		return tree(sign, "", 0, first, b), firstText + " " + sign + " " + text, testLevel
	case 1:
		b, text := w.body(0)
		sign, how := w.one("=", "<>", "<", "<=", ">", ">="), w.one("any", "some", "all")
		return tree(strings.Replace(how, "some", "any", 1), sign, 0, first, b), firstText + " " + sign + " " + how + " ( " + text + " )", testLevel
	case 2:
		what := w.one("null", "true", "false", "unknown")
		n, s = tree("is", what, 0, first), firstText+" is "+notText+what
	case 3:
		low, lowText := w.expr(sumLevel)
		high, highText := w.expr(sumLevel)
		n, s = tree("between", "", 0, first, low, high), firstText+" "+notText+"between "+lowText+" and "+highText
	case 4:
		b, text := w.expr(sumLevel)
		n, s = tree("like", "", 0, first, b), firstText+" "+notText+"like "+text
	case 5:
		n, s = w.in(first)
		s = firstText + " " + notText + s
	}
	if not == 1 {
		return tree("not", "", 0, n), s, testLevel
	}
	return n, s, testLevel
}

func (w *writer) in(first api.Node) (api.Node, string) {
	if w.r.Intn(3) == 0 {
		b, text := w.body(0)
		return tree("in", "query", 0, first, b), "in ( " + text + " )"
	}
	list, text := w.several(func() (api.Node, string) { return w.expr(orLevel) })
	return tree("in", "", 0, append([]api.Node{first}, list...)...), "in " + within(text)
}

func (w *writer) call() (api.Node, string) {
	switch w.r.Intn(8) {
	case 0:
		b, text := w.body(0)
		return tree("scalar", "", 0, b), "( " + text + " )"
	case 1:
		b, text := w.body(0)
		return tree("exists", "", 0, b), "exists ( " + text + " )"
	case 2, 3:
		return w.caseOf()
	case 4:
		typ, typeText := w.typeOf()
		n, text := w.expr(orLevel)
		return tree("cast", "", 0, typ, n), "cast ( " + text + " as " + typeText + " )"
	case 5:
		list, text := w.several(func() (api.Node, string) { return w.expr(orLevel) })
		return tree("coalesce", "", 0, list...), "coalesce ( " + text + " )"
	case 6:
		a, aText := w.expr(orLevel)
		b, bText := w.expr(orLevel)
		return tree("nullif", "", 0, a, b), "nullif ( " + aText + " , " + bText + " )"
	}
	if w.r.Intn(4) == 0 {
		return tree("count*", "", 0), "count ( * )"
	}
	op := w.one("count", "sum", "min", "max")
	distinct, text := w.bit("distinct ", w.maybe("all "))
	n, s := w.expr(orLevel)
	return tree(op, "", distinct, n), op + " ( " + text + s + " )"
}

func (w *writer) caseOf() (api.Node, string) {
	text := "case "
	held, heldText := w.expr(orLevel)
	simple := w.coin()
	if simple {
		text += heldText + " "
	}
	var parts []api.Node
	for range 1 + w.r.Intn(3) {
		asked, askedText := w.expr(orLevel)
		if simple {
			asked = tree("=", "", 0, held, asked)
		}
		n, s := w.expr(orLevel)
		parts = append(parts, tree("when", "", 0, asked, n))
		text += "when " + askedText + " then " + s + " "
	}
	otherwise := tree("null", "", 0)
	if w.coin() {
		n, s := w.expr(orLevel)
		otherwise, text = n, text+"else "+s+" "
	}
	return tree("case", "", 0, append(parts, otherwise)...), text + "end"
}

func (w *writer) typeOf() (api.Node, string) {
	n := w.r.Int63n(200)
	number := " ( " + strconv.FormatInt(n, 10) + " )"
	switch s := w.one("smallint", "integer", "bigint", "boolean", "char", "varchar"); s {
	case "integer":
		return tree("type", s, 0), w.one("int", "integer")
	case "varchar":
		return tree("type", s, n), s + number
	case "char":
		word := w.one("char", "character")
		if w.coin() {
			return tree("type", s, 1), word
		}
		return tree("type", s, n), word + number
	default:
		return tree("type", s, 0), s
	}
}

// body makes a body, and writes it where one of a level may stand: 0 where any may, 1 where UNION and EXCEPT may not, 2 where INTERSECT may not either.
func (w *writer) body(level int) (api.Node, string) {
	w.left--
	if w.left < 0 || w.r.Intn(3) > 0 {
		n, s := w.selected()
		if w.r.Intn(8) == 0 {
			s = "( " + s + " )"
		}
		return n, s
	}
	op, own := "intersect", 1
	if w.coin() {
		op, own = w.one("union", "except"), 0
	}
	a, aText := w.body(own)
	b, bText := w.body(own + 1)
	all, allText := w.bit("all ", "")
	s := aText + " " + op + " " + allText + bText
	if own < level || w.r.Intn(8) == 0 {
		s = "( " + s + " )"
	}
	return tree(op, "", all, a, b), s
}

func (w *writer) selected() (api.Node, string) {
	distinct, text := w.bit("distinct ", w.maybe("all "))
	items, itemsText := w.several(w.item)
	tables, tablesText := w.several(func() (api.Node, string) { return w.table(0) })
	text = "select " + text + itemsText + " from " + tablesText
	clause := func(op, word string, make func() ([]api.Node, string)) api.Node {
		if w.r.Intn(3) > 0 {
			return tree(op, "", 0)
		}
		parts, s := make()
		text += " " + word + " " + s
		return tree(op, "", 0, parts...)
	}
	condition := func() ([]api.Node, string) {
		n, s := w.expr(orLevel)
		return []api.Node{n}, s
	}
	where := clause("where", "where", condition)
	group := clause("group", "group by", func() ([]api.Node, string) { return w.several(w.column) })
	having := clause("having", "having", condition)
	return tree("select", "", distinct, tree("items", "", 0, items...), tree("from", "", 0, tables...), where, group, having), text
}

func (w *writer) item() (api.Node, string) {
	switch w.r.Intn(8) {
	case 0:
		return tree("star", "", 0), "*"
	case 1:
		name := w.name()
		return tree("star", name, 0), name + " . *"
	case 2, 3:
		name := w.name()
		n, s := w.expr(orLevel)
		return tree("item", name, 0, n), s + " " + w.maybe("as ") + name
	}
	n, s := w.expr(orLevel)
	return tree("item", "", 0, n), s
}

// table makes what stands in FROM; at level 1 a join must stand in parentheses.
func (w *writer) table(level int) (api.Node, string) {
	w.left--
	if w.left < 0 || w.coin() {
		n, s := w.joined()
		if n.Op == "table" && w.r.Intn(8) == 0 {
			s = "( " + s + " )"
		}
		return n, s
	}
	a, aText := w.table(0)
	b, bText := w.table(1)
	op := w.one("cross", "inner", "left", "right", "full")
	parts, s := []api.Node{a, b}, aText+" "+op+" join "+bText
	switch op {
	case "inner":
		s = aText + " " + w.one("inner join", "join") + " " + bText
	case "left", "right", "full":
		s = aText + " " + op + " " + w.maybe("outer ") + "join " + bText
	}
	if op != "cross" {
		n, text := w.expr(orLevel)
		parts, s = append(parts, n), s+" on "+text
	}
	if level > 0 || w.r.Intn(8) == 0 {
		s = within(s)
	}
	return tree(op, "", 0, parts...), s
}

func (w *writer) joined() (api.Node, string) {
	name, alias := w.name(), w.name()
	if w.left > 0 && w.r.Intn(3) == 0 {
		b, s := w.body(0)
		return tree("derived", alias, 0, b), "( " + s + " ) " + w.maybe("as ") + alias
	}
	if w.coin() {
		return tree("table", name, 0, tree("as", name, 0)), name
	}
	return tree("table", name, 0, tree("as", alias, 0)), name + " " + w.maybe("as ") + alias
}

func (w *writer) query() (api.Node, string) {
	b, s := w.body(0)
	if w.coin() {
		return tree("query", "", 0, b, tree("order", "", 0)), s
	}
	keys, text := w.several(func() (api.Node, string) {
		by, s := w.column()
		if w.coin() {
			by = tree("num", "", w.r.Int63n(9))
			s = strconv.FormatInt(by.N, 10)
		}
		if w.coin() {
			return tree("key", "desc", 0, by), s + " desc"
		}
		return tree("key", "asc", 0, by), s + " " + w.maybe("asc")
	})
	return tree("query", "", 0, b, tree("order", "", 0, keys...)), s + " order by " + text
}

func (w *writer) names() ([]api.Node, string) {
	list, s := w.several(func() (api.Node, string) {
		name := w.name()
		return tree("name", name, 0), name
	})
	return list, "( " + s + " )"
}

func (w *writer) statement() (api.Node, string) {
	name, other := w.name(), w.name()
	switch w.r.Intn(9) {
	case 0:
		list, s := w.several(w.element)
		return tree("create table", name, 0, list...), "create table " + name + " ( " + s + " )"
	case 1:
		unique, text := w.bit("unique ", "")
		list, s := w.names()
		return tree("create index", name, unique, append([]api.Node{tree("on", other, 0)}, list...)...), "create " + text + "index " + name + " on " + other + " " + s
	case 2:
		return w.insert(name)
	case 3:
		list, s := w.several(func() (api.Node, string) {
			name := w.name()
			n, s := w.expr(orLevel)
			return tree("set", name, 0, n), name + " = " + s
		})
		whose, text := w.whose()
		return tree("update", name, 0, append(list, whose)...), "update " + name + " set " + s + text
	case 4:
		whose, text := w.whose()
		return tree("delete", name, 0, whose), "delete from " + name + text
	case 5:
		q, s := w.query()
		scroll, text := w.bit("scroll ", "")
		end := w.one("", "read only", "update")
		if end != "" {
			s += " for " + end
		}
		return tree("declare", name, scroll, q, tree("for", end, 0)), "declare " + name + " " + text + "cursor for " + s
	case 6:
		way, s := w.way()
		return tree("fetch", name, 0, way), "fetch " + s + " " + w.maybe("from ") + name
	}
	return w.query()
}

func (w *writer) way() (api.Node, string) {
	switch op := w.one("next", "prior", "first", "last", "absolute", "relative", ""); op {
	case "absolute", "relative":
		n := w.r.Int63n(100) - 50
		return tree(op, "", n), op + " " + strconv.FormatInt(n, 10)
	case "":
		return tree("next", "", 0), ""
	default:
		return tree(op, "", 0), op
	}
}

func (w *writer) whose() (api.Node, string) {
	switch w.r.Intn(4) {
	case 0:
		return tree("where", "", 0), ""
	case 1:
		name := w.name()
		return tree("current", name, 0), " where current of " + name
	}
	n, s := w.expr(orLevel)
	return tree("where", "", 0, n), " where " + s
}

func (w *writer) insert(name string) (api.Node, string) {
	columns, text := tree("columns", "", 0), ""
	if w.coin() {
		columns.L, text = w.names()
		text += " "
	}
	if w.coin() {
		b, s := w.body(0)
		return tree("insert", name, 0, columns, b), "insert into " + name + " " + text + s
	}
	rows, s := w.several(func() (api.Node, string) {
		list, s := w.several(func() (api.Node, string) { return w.expr(orLevel) })
		return tree("row", "", 0, list...), "( " + s + " )"
	})
	return tree("insert", name, 0, columns, tree("values", "", 0, rows...)), "insert into " + name + " " + text + "values " + s
}

func (w *writer) check() (api.Node, string) {
	n, s := w.expr(orLevel)
	return tree("check", "", 0, n), "check ( " + s + " )"
}

func (w *writer) element() (api.Node, string) {
	name := w.name()
	switch w.r.Intn(8) {
	case 0:
		list, s := w.names()
		return tree("primary", "", 0, list...), "primary key " + s
	case 1:
		list, s := w.names()
		return tree("unique", "", 0, list...), "unique " + s
	case 2:
		return w.check()
	case 3:
		list, s := w.names()
		return tree("foreign", name, 0, list...), "foreign key " + s + " references " + name
	}
	typ, text := w.typeOf()
	parts := []api.Node{typ}
	for range w.r.Intn(4) {
		n, s := w.option()
		parts, text = append(parts, n), text+" "+s
	}
	return tree("column", name, 0, parts...), name + " " + text
}

func (w *writer) option() (api.Node, string) {
	switch w.r.Intn(5) {
	case 0:
		return tree("notnull", "", 0), "not null"
	case 1:
		return tree("primary", "", 0), "primary key"
	case 2:
		return tree("unique", "", 0), "unique"
	case 3:
		return w.check()
	}
	name := w.name()
	return tree("references", name, 0), "references " + name
}

// make is a statement and its tree, if it can be written.
func (w *writer) make() (n api.Node, text string, is bool) {
	defer func() {
		thrown := recover()
		if thrown == nil {
			return
		}
		if _, none := thrown.(unwritable); !none {
			panic(thrown)
		}
		n, text, is = api.Node{}, "", false
	}()
	n, text = w.statement()
	return n, text, true
}

func TestTreesWritten(t *testing.T) {
	t.Parallel()
	r := rand.New(rand.NewSource(141))
	read, deep := 0, 0
	for range 40000 {
		w := &writer{r: r, left: 1 << r.Intn(7)}
		want, text, is := w.make()
		if !is {
			continue
		}
		if _, state := lex.Scan(text); state != api.Done {
			refuses(t, text, state)
			continue
		}
		if depthOf(want) > 24 {
			deep++
			refuses(t, text, api.TooComplex)
			continue
		}
		read++
		tree, state := Parse(text)
		if state != api.Done || !reflect.DeepEqual(tree, want) {
			t.Fatalf("P14.1: S1: %s\nis       %s, %s\nnot      %s", text, show(tree), state, show(want))
		}
		if Depth(tree) != depthOf(want) {
			t.Fatalf("P14.1: Depth of %s: %d, not %d", text, Depth(tree), depthOf(want))
		}
		if read%4 == 0 {
			holdsAnew(t, r, text)
		}
	}
	if read < 10000 || deep < 100 {
		t.Errorf("%d trees were read, %d were too deep", read, deep)
	}
}

// FuzzParse holds that each call ends, that what is told is what the grammar says, and that other blanks do not matter.
func FuzzParse(f *testing.F) {
	for _, s := range oneOfEach {
		f.Add(s)
	}
	for _, s := range []string{"", ";", "select", "commit;;", "delete from t where " + strings.Repeat("not ", 30) + "a", "delete from t where " + strings.Repeat("case ", 8) + "a" + strings.Repeat(" when 1 then 2 when 3 then 4 end", 8), "select ((select 1 from t) + 1) from t", "9223372036854775808"} {
		f.Add(s)
	}
	f.Fuzz(func(t *testing.T, text string) {
		tokens, scanned := lex.Scan(text)
		tree, state := Parse(text)
		if scanned != api.Done {
			refuses(t, text, scanned)
			return
		}
		if state != api.Done && !isNothing(tree) || Depth(tree) > api.MaxDepth {
			t.Fatalf("P14.1: S1: %q: %q, depth %d", text, state, Depth(tree))
		}
		if len(tokens) > 150 {
			return
		}
		if isStatement(tokens) != (state == api.Done || state == api.TooComplex) {
			t.Fatalf("P14.1: S1: %q: %q", text, state)
		}
		holdsAnew(t, rand.New(rand.NewSource(int64(len(text)))), text)
	})
}
