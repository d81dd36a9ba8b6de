package bind

import (
	"math/rand"
	"strconv"
	"strings"

	"stile/api"
)

// maker makes queries at random: mostly such as mean something, with a fault here and there.
type maker struct{ r *rand.Rand }

type named struct {
	alias, name string
	kind        api.Kind
}

// frame is what may be named in a select; of a grouped one rows are what totals' parts may name.
type frame struct {
	columns, rows []named
	grouped       bool
}

func (g *maker) rarely(n int) bool { return g.r.Intn(n) == 0 }

func (g *maker) one(of ...string) string { return of[g.r.Intn(len(of))] }

func (g *maker) kind() api.Kind { return api.Kind(g.r.Intn(4)) }

func around(f frame, outer []frame) []frame { return append([]frame{f}, outer...) }

func (g *maker) query() string {
	text, columns := g.body(1+g.r.Intn(3), nil, nil)
	if !g.rarely(3) {
		return text
	}
	var keys []string
	for range 1 + g.r.Intn(2) {
		c := columns[g.r.Intn(len(columns))]
		key := strconv.Itoa(1 + g.r.Intn(len(columns)))
		if c.name != "?" && g.rarely(2) {
			key = c.name
		}
		if g.rarely(12) {
			key = g.one("0", strconv.Itoa(len(columns)+1), "zz", "t.a")
		}
		keys = append(keys, key+g.one("", " asc", " desc"))
	}
	return text + " order by " + strings.Join(keys, ", ")
}

// body is one whose columns are of the kinds that are wanted, or of any.
func (g *maker) body(depth int, want []api.Kind, outer []frame) (string, []named) {
	if want == nil {
		for range 1 + g.r.Intn(3) {
			want = append(want, g.kind())
		}
	}
	if depth > 0 && g.rarely(6) {
		left, columns := g.body(depth-1, want, outer)
		if g.rarely(12) {
			want = append([]api.Kind{api.Num}, want...)
		}
		right, _ := g.body(depth-1, want, outer)
		return "(" + left + ") " + g.one("union", "except", "intersect") + g.one("", " all") + " (" + right + ")", columns
	}
	return g.selection(depth, want, outer)
}

func (g *maker) selection(depth int, want []api.Kind, outer []frame) (string, []named) {
	from, rows := g.from(depth, outer)
	view := frame{columns: rows}
	text := " from " + from
	if g.rarely(2) {
		text += " where " + g.expr(api.Bool, depth, around(view, outer))
	}
	if g.rarely(3) {
		view = frame{rows: rows, grouped: true}
		var keys []string
		for range g.r.Intn(4) {
			c := rows[g.r.Intn(len(rows))]
			view.columns = append(view.columns, c)
			keys = append(keys, g.called(c))
		}
		if len(keys) > 0 {
			text += " group by " + strings.Join(keys, ", ")
		}
		if len(keys) == 0 || g.rarely(2) {
			text += " having " + g.expr(api.Bool, depth, around(view, outer))
		}
	}
	var items []string
	var columns []named
	for _, kind := range want {
		item := g.expr(kind, depth, around(view, outer))
		name := g.one("", "a", "b", "k", "m")
		if name == "" {
			columns = append(columns, named{name: "?", kind: kind})
		} else {
			item += g.one(" ", " as ") + name
			columns = append(columns, named{name: name, kind: kind})
		}
		items = append(items, item)
	}
	if g.rarely(12) {
		items = append(items, g.one("*", "t.*", "u.*", "x.*", "y.*"))
	}
	return "select " + g.one("", "", "distinct ", "all ") + strings.Join(items, ", ") + text, columns
}

// called is how a column is named: with its table, or without.
func (g *maker) called(c named) string {
	if c.name == "?" || g.rarely(60) {
		return g.one("zz", "x.zz", "zz.a", "a", "t.a")
	}
	if g.rarely(10) {
		return c.name
	}
	return c.alias + "." + c.name
}

func (g *maker) from(depth int, outer []frame) (string, []named) {
	var texts []string
	var rows []named
	free := []string{"t", "u", "v", "x", "y"}
	g.r.Shuffle(len(free), func(i, j int) { free[i], free[j] = free[j], free[i] })
	for range 1 + g.r.Intn(2) {
		text, columns := g.table(depth, outer, &free)
		texts = append(texts, text)
		rows = append(rows, columns...)
	}
	return strings.Join(texts, ", "), rows
}

func (g *maker) table(depth int, outer []frame, free *[]string) (string, []named) {
	if len(*free) > 1 && g.rarely(4) {
		return g.join(depth, outer, free)
	}
	alias := "t"
	if len(*free) > 0 && !g.rarely(80) {
		alias, *free = (*free)[0], (*free)[1:]
	}
	var columns []named
	if depth > 0 && g.rarely(5) {
		body, found := g.body(depth-1, nil, outer)
		for _, c := range found {
			columns = append(columns, named{alias, c.name, c.kind})
		}
		return "(" + body + ") " + alias, columns
	}
	all := map[string][]named{
		"t": {{"", "a", api.Num}, {"", "b", api.Text}, {"", "c", api.Bool}},
		"u": {{"", "a", api.Num}, {"", "d", api.Num}},
		"v": {{"", "e", api.Num}, {"", "f", api.Text}, {"", "g", api.Bool}, {"", "h", api.Num}},
	}
	table := g.one("t", "u", "v")
	for _, c := range all[table] {
		columns = append(columns, named{alias, c.name, c.kind})
	}
	if g.rarely(80) {
		table = "zz"
	}
	return table + " " + alias, columns
}

func (g *maker) join(depth int, outer []frame, free *[]string) (string, []named) {
	left, columns := g.table(depth, outer, free)
	right, others := g.table(depth, outer, free)
	columns = append(columns, others...)
	if g.rarely(4) {
		return "(" + left + " cross join " + right + ")", columns
	}
	return "(" + left + g.one("", " inner", " left", " right", " full") + " join " + right + " on " + g.expr(api.Bool, min(depth, 1), around(frame{columns: columns}, outer)) + ")", columns
}

// expr is an expression of a kind; Null may be of any.
func (g *maker) expr(kind api.Kind, depth int, scopes []frame) string {
	if g.rarely(80) {
		kind = g.kind()
	}
	if g.rarely(150) {
		return g.one("count(*)", "sum(a)", "max(b)", "zz", "(select a, 1 from u)", "cast(1 as char(0))")
	}
	if depth > 0 && !g.rarely(4) {
		return g.deeper(kind, depth-1, scopes)
	}
	return g.leaf(kind, scopes)
}

func (g *maker) leaf(kind api.Kind, scopes []frame) string {
	if !g.rarely(4) {
		at := 0
		for at+1 < len(scopes) && g.rarely(2) {
			at++
		}
		var fit []named
		for _, c := range scopes[at].columns {
			if c.kind == kind || kind == api.Null {
				fit = append(fit, c)
			}
		}
		if g.rarely(40) {
			fit = append(fit, scopes[at].rows...)
		}
		if len(fit) > 0 {
			return g.called(fit[g.r.Intn(len(fit))])
		}
	}
	switch kind {
	case api.Num:
		return strconv.Itoa(g.r.Intn(5))
	case api.Text:
		return g.one("'x'", "'yz'", "''")
	case api.Bool:
		return g.one("true", "false")
	}
	return "null"
}

func (g *maker) deeper(kind api.Kind, depth int, scopes []frame) string {
	e := func(kind api.Kind) string { return "(" + g.expr(kind, depth, scopes) + ")" }
	q := func(kind api.Kind) string {
		body, _ := g.body(min(depth, 1), []api.Kind{kind}, scopes)
		return "(" + body + ")"
	}
	if scopes[0].grouped && g.rarely(2) {
		if text, is := g.total(kind, depth, scopes); is {
			return text
		}
	}
	same := g.kind()
	switch g.r.Intn(9) {
	case 0:
		return "case when " + e(api.Bool) + " then " + e(kind) + " when " + e(api.Bool) + " then " + e(kind) + g.one("", " else "+e(kind)) + " end"
	case 1:
		return "case " + e(same) + " when " + e(same) + " then " + e(kind) + " when " + e(same) + " then " + e(kind) + " end"
	case 2:
		return "coalesce(" + e(kind) + ", " + e(kind) + ")"
	case 3:
		return "nullif(" + e(kind) + ", " + e(kind) + ")"
	case 4:
		return q(kind)
	}
	switch kind {
	case api.Num:
		switch g.r.Intn(3) {
		case 0:
			return "-" + e(kind)
		case 1:
			return "cast(" + e(api.Text) + " as " + g.one("int", "bigint", "smallint") + ")"
		}
		return e(kind) + g.one(" + ", " - ", " * ", " / ") + e(kind)
	case api.Text:
		if g.rarely(2) {
			return "cast(" + e(g.kind()) + " as " + g.one("char", "char(3)", "varchar(100)") + ")"
		}
		return e(kind) + " || " + e(kind)
	case api.Bool:
		return g.truth(same, e, q)
	}
	return "null"
}

func (g *maker) truth(same api.Kind, e, q func(api.Kind) string) string {
	sign := g.one("=", "<>", "<", "<=", ">", ">=")
	not := g.one("", "not ")
	switch g.r.Intn(10) {
	case 0:
		return e(same) + sign + e(same)
	case 1:
		return e(api.Bool) + g.one(" and ", " or ") + e(api.Bool)
	case 2:
		return "not " + e(api.Bool)
	case 3:
		return e(same) + " is " + not + "null"
	case 4:
		return e(api.Bool) + " is " + not + g.one("true", "false", "unknown")
	case 5:
		return e(same) + " " + not + "between " + e(same) + " and " + e(same)
	case 6:
		return e(same) + " " + not + "in (null, " + e(same) + ", " + e(same) + ")"
	case 7:
		return e(api.Text) + " " + not + "like " + e(api.Text)
	case 8:
		return e(same) + " " + g.one("in", sign+" any", sign+" all", sign+" some") + " " + q(same)
	}
	return "exists " + q(same)
}

// total is a total of a kind, if there may be one.
func (g *maker) total(kind api.Kind, depth int, scopes []frame) (string, bool) {
	part := func(kind api.Kind) string {
		within := around(frame{columns: scopes[0].rows}, scopes[1:])
		return "(" + g.one("", "distinct ", "all ") + g.expr(kind, min(depth, 1), within) + ")"
	}
	switch {
	case kind == api.Num && g.rarely(3):
		return "count(*)", true
	case kind == api.Num && g.rarely(2):
		return "count" + part(g.kind()), true
	case kind == api.Num && g.rarely(2):
		return "sum" + part(kind), true
	}
	return g.one("min", "max") + part(kind), true
}
