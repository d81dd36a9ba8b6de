package parse

import (
	"math/rand"
	"slices"
	"strconv"
	"strings"
	"testing"

	"stile/api"
	"stile/lex"
)

// grammar says what a statement is, as the document writes it: words in capitals, signs in quotes; NAME, NUMBER and TEXT are such tokens; | parts ways, ( ) holds some together, [ ] may be left out, { } may come any number of times. & and ! ask, and take nothing: whether "(" stands here with nothing but further "(" between it and SELECT, or not.
const grammar = `
whole: statement [ ";" ]
statement: CREATE TABLE NAME "(" element { "," element } ")"
 | CREATE [ UNIQUE ] INDEX NAME ON NAME names
 | DROP TABLE NAME | DROP INDEX NAME
 | INSERT INTO NAME [ names ] ( VALUES row { "," row } | body )
 | UPDATE NAME SET NAME "=" expr { "," NAME "=" expr } [ whose ]
 | DELETE FROM NAME [ whose ]
 | query
 | COMMIT | ROLLBACK
 | SAVEPOINT NAME | ROLLBACK TO [ SAVEPOINT ] NAME | RELEASE [ SAVEPOINT ] NAME
 | SET TRANSACTION ISOLATION LEVEL ( READ UNCOMMITTED | READ COMMITTED | REPEATABLE READ | SERIALIZABLE )
 | DECLARE NAME [ SCROLL ] CURSOR FOR query [ FOR ( READ ONLY | UPDATE ) ]
 | OPEN NAME | CLOSE NAME
 | FETCH [ way ] [ FROM ] NAME
way: NEXT | PRIOR | FIRST | LAST | ABSOLUTE n | RELATIVE n
n: [ "-" ] NUMBER
names: "(" NAME { "," NAME } ")"
row: "(" expr { "," expr } ")"
whose: WHERE expr | WHERE CURRENT OF NAME
element: NAME type { option } | PRIMARY KEY names | UNIQUE names | CHECK "(" expr ")" | FOREIGN KEY names REFERENCES NAME
option: NOT NULL | PRIMARY KEY | UNIQUE | CHECK "(" expr ")" | REFERENCES NAME
type: SMALLINT | INTEGER | INT | BIGINT | BOOLEAN | ( CHAR | CHARACTER ) [ "(" NUMBER ")" ] | VARCHAR "(" NUMBER ")"
query: body [ ORDER BY key { "," key } ]
key: ( NUMBER | column ) [ ASC | DESC ]
body: term { ( UNION | EXCEPT ) [ ALL ] term }
term: simple { INTERSECT [ ALL ] simple }
simple: "(" body ")"
 | SELECT [ ALL | DISTINCT ] item { "," item } FROM table { "," table } [ WHERE expr ] [ GROUP BY column { "," column } ] [ HAVING expr ]
item: "*" | NAME "." "*" | expr [ [ AS ] NAME ]
table: joined { CROSS JOIN joined | ( [ INNER ] | ( LEFT | RIGHT | FULL ) [ OUTER ] ) JOIN joined ON expr }
joined: NAME [ [ AS ] NAME ] | & "(" body ")" [ AS ] NAME | ! "(" table ")"
expr: and { OR and }
and: not { AND not }
not: NOT not | test
test: sum [ compare sum | compare ( ANY | SOME | ALL ) "(" body ")" | IS [ NOT ] ( NULL | TRUE | FALSE | UNKNOWN )
 | [ NOT ] BETWEEN sum AND sum | [ NOT ] LIKE sum | [ NOT ] IN & "(" body ")" | [ NOT ] IN ! "(" expr { "," expr } ")" ]
compare: "=" | "<>" | "<" | "<=" | ">" | ">="
sum: product { ( "+" | "-" | "||" ) product }
product: sign { ( "*" | "/" ) sign }
sign: "-" sign | NUMBER | TEXT | TRUE | FALSE | NULL | column | ! "(" expr ")" | & "(" body ")" | EXISTS "(" body ")"
 | CASE [ expr ] WHEN expr THEN expr { WHEN expr THEN expr } [ ELSE expr ] END
 | CAST "(" expr AS type ")" | COALESCE "(" expr { "," expr } ")" | NULLIF "(" expr "," expr ")"
 | COUNT "(" "*" ")" | ( COUNT | SUM | MIN | MAX ) "(" [ ALL | DISTINCT ] expr ")"
column: NAME | NAME "." NAME
`

// form is a piece of the grammar: kind says how its parts go together, or what the token s is.
type form struct {
	kind  byte // 's'equence, 'o'ne of, '[', '{', 'r'ule, 'w'ord, '"', 'N'AME, NUMBER '1', TEXT 't', '&', '!'
	s     string
	parts []form
}

type ruleReader struct {
	words []string
	at    int
}

func (r *ruleReader) stands(s string) bool { return r.at < len(r.words) && r.words[r.at] == s }

func (r *ruleReader) oneOf() form {
	ways := []form{r.sequence()}
	for r.stands("|") {
		r.at++
		ways = append(ways, r.sequence())
	}
	if len(ways) == 1 {
		return ways[0]
	}
	return form{kind: 'o', parts: ways}
}

func (r *ruleReader) sequence() form {
	var parts []form
	for r.at < len(r.words) && !slices.Contains([]string{"|", ")", "]", "}"}, r.words[r.at]) {
		parts = append(parts, r.part())
	}
	return form{kind: 's', parts: parts}
}

func (r *ruleReader) part() form {
	word := r.words[r.at]
	r.at++
	switch {
	case word == "(" || word == "[" || word == "{":
		inner := r.oneOf()
		r.at++
		if word == "(" {
			return inner
		}
		return form{kind: word[0], parts: []form{inner}}
	case word == "NAME" || word == "&" || word == "!":
		return form{kind: word[0]}
	case word == "NUMBER":
		return form{kind: '1'}
	case word == "TEXT":
		return form{kind: 't'}
	case word[0] == '"':
		return form{kind: '"', s: strings.Trim(word, `"`)}
	case word == strings.ToUpper(word):
		return form{kind: 'w', s: strings.ToLower(word)}
	}
	return form{kind: 'r', s: word}
}

func readGrammar() map[string]form {
	rules := map[string]form{}
	for _, rule := range strings.Split(strings.ReplaceAll(strings.TrimSpace(grammar), "\n ", " "), "\n") {
		name, says, _ := strings.Cut(rule, ":")
		rules[name] = (&ruleReader{words: strings.Fields(says)}).oneOf()
	}
	return rules
}

var rules = readGrammar()

// asked are a text's tokens, and what is known of them already: where a rule that begins at a place may end.
type asked struct {
	tokens []api.Token
	known  map[place][]int
}

type place struct {
	rule string
	at   int
}

// isStatement tells by the grammar alone whether tokens are a statement: all ways to read them are tried.
func isStatement(tokens []api.Token) bool {
	a := &asked{tokens, map[place][]int{}}
	return slices.Contains(a.ends(form{kind: 'r', s: "whole"}, 0), len(tokens))
}

func (a *asked) is(at int, kind api.TokenKind, s string) bool {
	return at < len(a.tokens) && a.tokens[at].Kind == kind && a.tokens[at].S == s
}

func (a *asked) isKind(at int, kind api.TokenKind) bool {
	return at < len(a.tokens) && a.tokens[at].Kind == kind
}

func (a *asked) opensBody(at int) bool {
	from := at
	for a.is(at, api.Sign, "(") {
		at++
	}
	return at > from && a.is(at, api.Word, "select")
}

// takesOne tells whether a form that is one token stands at a place.
func (a *asked) takesOne(f form, at int) bool {
	switch f.kind {
	case 'w':
		return a.is(at, api.Word, f.s)
	case '"':
		return a.is(at, api.Sign, f.s)
	case 'N':
		return a.isKind(at, api.Word) && !reserved[a.tokens[at].S]
	case '1':
		return a.isKind(at, api.Number)
	}
	return f.kind == 't' && a.isKind(at, api.String)
}

// ends are all places where a form that begins at a place may end.
func (a *asked) ends(f form, at int) []int {
	switch f.kind {
	case 'r':
		here := place{f.s, at}
		if _, is := a.known[here]; !is {
			a.known[here] = a.ends(rules[f.s], at)
		}
		return a.known[here]
	case 's':
		all := []int{at}
		for _, part := range f.parts {
			all = a.endsOfAll(part, all)
		}
		return all
	case 'o':
		var all []int
		for _, part := range f.parts {
			all = append(all, a.ends(part, at)...)
		}
		return unlike(all)
	case '[':
		return unlike(append([]int{at}, a.ends(f.parts[0], at)...))
	case '{':
		all := []int{at}
		for {
			more := unlike(append(slices.Clone(all), a.endsOfAll(f.parts[0], all)...))
			if len(more) == len(all) {
				return all
			}
			all = more
		}
	case '&', '!':
		if a.opensBody(at) == (f.kind == '&') {
			return []int{at}
		}
		return nil
	}
	if a.takesOne(f, at) {
		return []int{at + 1}
	}
	return nil
}

func (a *asked) endsOfAll(f form, from []int) []int {
	var all []int
	for _, at := range from {
		all = append(all, a.ends(f, at)...)
	}
	return unlike(all)
}

func unlike(all []int) []int {
	slices.Sort(all)
	return slices.Compact(all)
}

// reserved are the words that the grammar is written with, and no others: the document's list (13) has just these.
var reserved = wordsOf(rules)

func wordsOf(rules map[string]form) map[string]bool {
	words := map[string]bool{}
	var walk func(f form)
	walk = func(f form) {
		if f.kind == 'w' {
			words[f.s] = true
		}
		for _, part := range f.parts {
			walk(part)
		}
	}
	for _, rule := range rules {
		walk(rule)
	}
	return words
}

// No word of a statement may be a name.
func TestWordsAreReserved(t *testing.T) {
	if len(reserved) != 102 {
		t.Errorf("the grammar has %d words", len(reserved))
	}
	for word := range reserved {
		if !lex.Reserved(word) {
			t.Errorf("%s is no reserved word", word)
		}
		isSyntax(t, "savepoint "+word, "open "+word, "close "+word, "fetch next "+word, "fetch from "+word, "drop table "+word, "drop index "+word, "release savepoint "+word, "rollback to savepoint "+word, "delete from "+word, "delete from t where current of "+word, "insert into "+word+" values (1)", "insert into t ("+word+") values (1)", "update "+word+" set a = 1", "update t set "+word+" = 1",
			"create table "+word+" (a int)", "create table t ("+word+" int)", "create table t (a int references "+word+")", "create table t (foreign key (a) references "+word+")", "create table t (primary key ("+word+"))", "create index "+word+" on t (a)", "create index i on "+word+" (a)", "create index i on t ("+word+")", "declare "+word+" cursor for select 1 from t",
			"select 1 as "+word+" from t", "select "+word+".* from t", "select t."+word+" from t", "select "+word+".a from t", "select 1 from "+word, "select 1 from t as "+word, "select 1 from (select 1 from t) as "+word, "select 1 from (select 1 from t) "+word, "select 1 from t group by "+word, "select 1 from t group by t."+word, "select 1 from t order by "+word, "select 1 from t order by t."+word, "select 1 "+word+" from t")
		if !slices.Contains([]string{"true", "false", "null"}, word) {
			isSyntax(t, "delete from t where "+word, "select "+word+" from t", "insert into t values ("+word+")")
		}
		// With a letter more it is a name.
		reads(t, "select x"+word+"."+word+"x "+word+"_ from _"+word, "query(select(items(item:"+word+"_(col:"+word+"x(of:x"+word+"))) from(table:_"+word+"(as:_"+word+")) where group having) order)")
	}
}

// oneOfEach has of each row of the table of statements at least one, with all that may be left out and without.
var oneOfEach = []string{
	"create table t (a int, b character(3) not null primary key unique check (a > 0) references u, primary key (a, b), unique (a), check (a or b), foreign key (a, b) references v)",
	"create table t (a smallint)", "create table t (a bigint, b boolean, c varchar(7), d char, e integer)",
	"create unique index i on t (a, b)", "create index i on t (a)", "drop table t", "drop index i",
	"insert into t (a, b) values (1, 'x'), (null, true)", "insert into t values (1)", "insert into t (a) select 1 from u", "insert into t (select 1 from u)", "insert into t (a) ((select 1 from u) union (select 2 from v))",
	"update t set a = 1, b = a + 1 where c = 'x'", "update t set a = b where current of c", "update t set a = - 1", "delete from t where a is not null", "delete from t where current of c", "delete from t",
	"select a from t", "select distinct t.*, 1 as x, b y, * from t as u, v where a group by b, t.c having count(*) > 1 order by 1, t.a desc, b asc", "select all a from t order by a",
	"(select a from t) union all (select b from u except select c from v) intersect select d from w order by 2", "select a from t except all select b from u", "select a from t intersect all select b from u",
	"select 1 from (a cross join b) left outer join c as d on x = y join (select 1 from t) as z on true", "select 1 from a inner join b on c right join d on e full outer join (f) on g, (select 1 from h) i",
	"commit", "rollback", "savepoint s", "rollback to savepoint s", "rollback to s", "release savepoint s", "release s",
	"set transaction isolation level read uncommitted", "set transaction isolation level read committed", "set transaction isolation level repeatable read", "set transaction isolation level serializable",
	"declare c scroll cursor for select a from t order by 1 for read only", "declare c cursor for (select a from t) for update", "declare c cursor for select a from t", "open c", "close c",
	"fetch absolute - 3 from c", "fetch relative 3 c", "fetch prior from c", "fetch next c", "fetch first c", "fetch last c", "fetch from c", "fetch c",
	"delete from t where not a = 1 or b between 1 and 2 and c not like 'x' or d in (1, 2) and e not in (select 1 from t)", "delete from t where a <> any (select 1 from t) or b >= all ((select 1 from t))", "delete from t where a is unknown and b is not true or not not c not between d and e",
	"delete from t where case a when 1 then 2 when 3 then 4 else 5 end = case when b then c end", "delete from t where coalesce(a, (select 1 from t), nullif(b, 1)) = cast(c as char(3)) || 'x'", "delete from t where exists (select 1 from t) and (a + b) * - c / 2 - 1 < sum(distinct d) + count(*) - count(all t.e) * min(f) / max((g))",
}

// asGrammar holds tokens, written with blanks between, against the grammar.
func asGrammar(t *testing.T, tokens []string) {
	t.Helper()
	text := strings.Join(tokens, " ")
	scanned, state := lex.Scan(text)
	if state != api.Done {
		refuses(t, text, state)
		return
	}
	tree, state := Parse(text)
	switch {
	case !isStatement(scanned):
		if state != api.Syntax || !isNothing(tree) {
			t.Errorf("P14.1: S1: %q is no statement: %q, %s", text, state, show(tree))
		}
	case state == api.TooComplex:
		if !isNothing(tree) {
			t.Errorf("P14.1: S1: %q: a tree beside %q", text, state)
		}
	case state != api.Done || depthOf(tree) > api.MaxDepth:
		t.Errorf("P14.1: S1: %q is a statement: %q, depth %d", text, state, depthOf(tree))
	}
}

// tokensOf are a text's tokens as they would be written.
func tokensOf(t *testing.T, text string) []string {
	t.Helper()
	tokens, state := lex.Scan(text)
	if state != api.Done {
		t.Fatalf("%q: %s", text, state)
	}
	var out []string
	for _, token := range tokens {
		out = append(out, written(token))
	}
	return out
}

func written(token api.Token) string {
	switch token.Kind {
	case api.Number:
		return strconv.FormatInt(token.N, 10)
	case api.String:
		return "'" + strings.ReplaceAll(token.S, "'", "''") + "'"
	}
	return token.S
}

// allTokens are all words and signs, and some other tokens.
func allTokens() []string {
	tokens := []string{"a", "t", "1", "0", "'x'", "( select 1 from t )", "( select", "( ("}
	for word := range reserved {
		tokens = append(tokens, word)
	}
	slices.Sort(tokens)
	return append(tokens, strings.Fields("<= >= <> || ( ) , . ; = < > + - * /")...)
}

func TestGrammarHasEach(t *testing.T) {
	for _, s := range oneOfEach {
		tokens, _ := lex.Scan(s)
		if !isStatement(tokens) {
			t.Errorf("%s: is no statement", s)
		}
		asGrammar(t, tokensOf(t, s))
	}
}

// At each place of each statement a token is missing, stands twice, or stands behind the next one; or all ends there, or begins there.
func TestTokensMissing(t *testing.T) {
	t.Parallel()
	for _, s := range oneOfEach {
		tokens := tokensOf(t, s)
		for i := range tokens {
			asGrammar(t, slices.Delete(slices.Clone(tokens), i, i+1))
			asGrammar(t, slices.Insert(slices.Clone(tokens), i, tokens[i]))
			asGrammar(t, tokens[:i])
			asGrammar(t, tokens[i:])
			for j := range tokens {
				swapped := slices.Clone(tokens)
				swapped[i], swapped[j] = swapped[j], swapped[i]
				asGrammar(t, swapped)
			}
			for n := 2; i+n <= len(tokens); n++ {
				asGrammar(t, slices.Delete(slices.Clone(tokens), i, i+n))
			}
		}
	}
}

// At each place of each statement any other token stands, or one more.
func TestTokensPutIn(t *testing.T) {
	all := allTokens()
	for _, s := range oneOfEach {
		t.Run(s, func(t *testing.T) {
			t.Parallel()
			tokens := tokensOf(t, s)
			for i := range len(tokens) + 1 {
				for _, other := range all {
					asGrammar(t, slices.Insert(slices.Clone(tokens), i, other))
					if i < len(tokens) {
						changed := slices.Clone(tokens)
						changed[i] = other
						asGrammar(t, changed)
					}
				}
			}
		})
	}
}

// maker writes statements by the grammar, on and on in some way.
type maker struct {
	r     *rand.Rand
	left  int // how many rules may be gone into still, ere the shortest ways are taken
	words []string
}

func (m *maker) write(f form) {
	switch f.kind {
	case 'r':
		m.left--
		m.write(rules[f.s])
	case 's':
		for _, part := range f.parts {
			m.write(part)
		}
	case 'o':
		m.write(f.parts[m.way(f)])
	case '[', '{':
		for m.left > 0 && m.r.Intn(3) == 0 {
			m.write(f.parts[0])
			if f.kind == '[' {
				break
			}
		}
	case 'w', '"':
		m.words = append(m.words, f.s)
	case 'N':
		m.words = append(m.words, []string{"a", "b", "t", "u"}[m.r.Intn(4)])
	case '1':
		m.words = append(m.words, []string{"0", "1", "7"}[m.r.Intn(3)])
	case 't':
		m.words = append(m.words, []string{"''", "'x'"}[m.r.Intn(2)])
	}
}

// way is which one of some is taken: if nothing is left one that soon ends, if there is one.
func (m *maker) way(f form) int {
	if m.left > 0 {
		return m.r.Intn(len(f.parts))
	}
	var short []int
	for i, part := range f.parts {
		if part.kind == 's' && !slices.ContainsFunc(part.parts, func(p form) bool { return p.kind == 'r' && p.s != "column" }) {
			short = append(short, i)
		}
	}
	if len(short) == 0 {
		return len(f.parts) - 1
	}
	return short[m.r.Intn(len(short))]
}

// Statements that the grammar makes, as they are and with some tokens changed.
func TestRandomStatements(t *testing.T) {
	t.Parallel()
	r := rand.New(rand.NewSource(14))
	all := allTokens()
	made := 0
	for range 12000 {
		m := &maker{r: r, left: 1 << r.Intn(8)}
		m.write(form{kind: 'r', s: "whole"})
		if len(m.words) > 120 {
			continue
		}
		made++
		asGrammar(t, m.words)
		for range 4 {
			changed := slices.Clone(m.words)
			for range 1 + r.Intn(3) {
				changed = changeOne(r, changed, all)
			}
			asGrammar(t, changed)
		}
	}
	if made < 4000 {
		t.Errorf("only %d statements were short enough", made)
	}
}

func changeOne(r *rand.Rand, tokens, all []string) []string {
	if len(tokens) == 0 {
		return []string{all[r.Intn(len(all))]}
	}
	i := r.Intn(len(tokens))
	switch r.Intn(4) {
	case 0:
		return slices.Delete(tokens, i, i+1)
	case 1:
		return slices.Insert(tokens, i, all[r.Intn(len(all))])
	case 2:
		tokens[i] = tokens[r.Intn(len(tokens))]
		return tokens
	}
	return slices.Insert(tokens, i, tokens[r.Intn(len(tokens))])
}

// All short rows of some tokens.
func TestAllShortRowsOfTokens(t *testing.T) {
	t.Parallel()
	for _, c := range []struct {
		ahead, behind string
		tokens        string
		most          int
	}{
		{"delete from t where", "", "a not - ( ) or =", 5},
		{"select", "from t", "a * . as , (", 5},
		{"select 1 from", "", "t ( ) join cross on left", 5},
		{"", "", "( ) ; union all S", 5},
		{"delete from t where (", "", "( ) + , S a in", 5},
		{"select 1 from (", "", "( ) S a , join", 5},
		{"delete from t where case", "end", "a when then else 1", 6},
		{"create table t (", ")", "a int not null primary key", 5},
		{"insert into t", "", "( ) a S values ,", 5},
		{"fetch", "", "next absolute - 1 from c", 5},
	} {
		one := tokensOf(t, "select 1 from t")
		var grow func(tokens []string, left int)
		grow = func(tokens []string, left int) {
			asGrammar(t, append(slices.Clone(tokens), strings.Fields(c.behind)...))
			if left == 0 || t.Failed() {
				return
			}
			for _, more := range strings.Fields(c.tokens) {
				if more == "S" {
					grow(append(slices.Clone(tokens), one...), left-1)
				} else {
					grow(append(slices.Clone(tokens), more), left-1)
				}
			}
		}
		grow(strings.Fields(c.ahead), c.most)
	}
}
