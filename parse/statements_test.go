package parse

import (
	"math"
	"strconv"
	"strings"
	"testing"

	"stile/api"
)

type read struct{ text, tree string }

func readAll(t *testing.T, all []read) {
	t.Helper()
	for _, r := range all {
		reads(t, r.text, r.tree)
	}
}

func TestExamples(t *testing.T) {
	readAll(t, []read{
		{"select a from t", "query(select(items(item(col:a)) from(table:t(as:t)) where group having) order)"},
		{"select 1 + 2 * 3 from t", "query(select(items(item(+(num#1 *(num#2 num#3)))) from(table:t(as:t)) where group having) order)"},
		{"delete from t where not a = b or c", "delete:t(where(or(not(=(col:a col:b)) col:c)))"},
	})
	isSyntax(t, "select")
}

func TestCreateTable(t *testing.T) {
	readAll(t, []read{
		{"create table t (a int)", "create table:t(column:a(type:integer))"},
		{"create table t (a int, b int, c int)", "create table:t(column:a(type:integer) column:b(type:integer) column:c(type:integer))"},
		{"create table t (a int not null)", "create table:t(column:a(type:integer notnull))"},
		{"create table t (a int primary key)", "create table:t(column:a(type:integer primary))"},
		{"create table t (a int unique)", "create table:t(column:a(type:integer unique))"},
		{"create table t (a int check (a > 0))", "create table:t(column:a(type:integer check(>(col:a num))))"},
		{"create table t (a int references u)", "create table:t(column:a(type:integer references:u))"},
		{"create table t (a char(3) references u unique check (a or b) primary key not null not null check (true))", "create table:t(column:a(type:char#3 references:u unique check(or(col:a col:b)) primary notnull notnull check(bool#1)))"},
		{"create table t (primary key (a))", "create table:t(primary(name:a))"},
		{"create table t (primary key (a, b, a))", "create table:t(primary(name:a name:b name:a))"},
		{"create table t (unique (a))", "create table:t(unique(name:a))"},
		{"create table t (unique (a, b))", "create table:t(unique(name:a name:b))"},
		{"create table t (check (a is null))", "create table:t(check(is:null(col:a)))"},
		{"create table t (check ((select 1 from t)))", "create table:t(check(scalar(" + one + ")))"},
		{"create table t (foreign key (a) references u)", "create table:t(foreign:u(name:a))"},
		{"create table t (foreign key (a, b) references u)", "create table:t(foreign:u(name:a name:b))"},
		{"create table t (unique (a), a int unique, check (a), primary key (a), foreign key (a) references t, b boolean)",
			"create table:t(unique(name:a) column:a(type:integer unique) check(col:a) primary(name:a) foreign:t(name:a) column:b(type:boolean))"},
	})
	isSyntax(t,
		"create table t", "create table t ()", "create table t (a)", "create table t (int)", "create table t (a int", "create table t a int)", "create table t (a int,)", "create table t (, a int)", "create table t (a int b int)", "create table t (a int),", "create table t (a int) (b int)",
		"create table (a int)", "create t (a int)", "table t (a int)", "create table table (a int)", "create table t (select int)", "create table 't' (a int)", "create table t.u (a int)", "create unique table t (a int)",
		"create table t (a int not)", "create table t (a int null)", "create table t (a not null int)", "create table t (not null a int)", "create table t (a int not unique)",
		"create table t (a int primary)", "create table t (a int key)", "create table t (a int primary key (a))", "create table t (a int unique (a))", "create table t (a int unique key)",
		"create table t (a int check)", "create table t (a int check a)", "create table t (a int check ())", "create table t (a int check (a, b))", "create table t (a int check (select 1 from t))", "create table t (check (current of c))",
		"create table t (a int references)", "create table t (a int references u (b))", "create table t (a int references (u))", "create table t (a int foreign key references u)", "create table t (a int references int)",
		"create table t (primary (a))", "create table t (primary key)", "create table t (primary key ())", "create table t (primary key a)", "create table t (primary key (a,))", "create table t (primary key (a b))", "create table t (primary key (1))", "create table t (primary key (t.a))", "create table t (primary key ((a)))", "create table t (primary key (a) not null)",
		"create table t (unique)", "create table t (unique a)", "create table t (unique key (a))", "create table t (check)", "create table t (check a)", "create table t (references u)", "create table t (not null)",
		"create table t (foreign (a) references u)", "create table t (foreign key references u)", "create table t (foreign key (a))", "create table t (foreign key (a) u)", "create table t (foreign key (a) references)", "create table t (foreign key (a) references u (b))", "create table t (foreign key a references u)",
	)
}

func TestTypes(t *testing.T) {
	for text, tree := range map[string]string{
		"smallint": "smallint", "integer": "integer", "int": "integer", "bigint": "bigint", "boolean": "boolean",
		"char": "char#1", "character": "char#1", "char(1)": "char#1", "char(3)": "char#3", "character(3)": "char#3", "char(0)": "char", "char (100)": "char#100",
		"character(0)": "char", "char(9223372036854775807)": "char#9223372036854775807", "char(007)": "char#7",
		"varchar(1)": "varchar#1", "varchar(0)": "varchar", "varchar(5)": "varchar#5", "varchar ( 101 )": "varchar#101",
	} {
		reads(t, "create table t (a "+text+")", "create table:t(column:a(type:"+tree+"))")
		reads(t, "create table t (a "+text+" not null, b "+text+")", "create table:t(column:a(type:"+tree+" notnull) column:b(type:"+tree+"))")
		reads(t, "delete from t where cast(1 as "+text+")", "delete:t(where(cast(type:"+tree+" num#1)))")
	}
	for _, text := range []string{
		"varchar", "varchar()", "char()", "char(-1)", "char(a)", "char('1')", "char(1, 2)", "char 1", "char(1", "char 1)", "char((1))", "varchar 5", "varchar(5))", "varchar (", "integer(4)", "int(4)", "smallint(2)", "bigint(8)", "boolean(1)",
		"text", "bool", "string", "num", "float", "varying", "char varying(3)", "character varying(3)", "int integer", "small int", "null", "true", "'int'", "1", "",
	} {
		isSyntax(t, "create table t (a "+text+")", "delete from t where cast(1 as "+text+")")
	}
	reads(t, "create table t (text int, bool char, float varchar(2))", "create table:t(column:text(type:integer) column:bool(type:char#1) column:float(type:varchar#2))")
}

func TestIndexesAndDrops(t *testing.T) {
	readAll(t, []read{
		{"create index i on t (a)", "create index:i(on:t name:a)"},
		{"create index i on t (a, b, c)", "create index:i(on:t name:a name:b name:c)"},
		{"create unique index i on t (a)", "create index:i#1(on:t name:a)"},
		{"create unique index t on t (t, t)", "create index:t#1(on:t name:t name:t)"},
		{"drop table t", "drop table:t"},
		{"drop index i", "drop index:i"},
	})
	isSyntax(t,
		"create index i on t", "create index i on t ()", "create index i on t a", "create index i (a)", "create index on t (a)", "create index i t (a)", "create index i on (a)", "create unique i on t (a)", "create index unique i on t (a)", "unique index i on t (a)", "create index i on t (a desc)", "create index i on t (a,)", "create index i on t (a) (b)", "create unique unique index i on t (a)", "create index i on t.u (a)", "create index i on t (1)",
		"create", "drop", "drop t", "drop table", "drop index", "drop table t, u", "drop table (t)", "drop table 't'", "drop table 1", "drop table select", "drop index on", "drop index i on t", "drop unique index i", "drop column a", "table t",
	)
}

func TestInsert(t *testing.T) {
	readAll(t, []read{
		{"insert into t values (1)", "insert:t(columns values(row(num#1)))"},
		{"insert into t values (1, 'x', null)", "insert:t(columns values(row(num#1 text:x null)))"},
		{"insert into t values (1), (2, 3), (a)", "insert:t(columns values(row(num#1) row(num#2 num#3) row(col:a)))"},
		{"insert into t (a) values (1)", "insert:t(columns(name:a) values(row(num#1)))"},
		{"insert into t (a, b) values (1, 2), (3, 4)", "insert:t(columns(name:a name:b) values(row(num#1 num#2) row(num#3 num#4)))"},
		{"insert into t values ((1))", "insert:t(columns values(row(num#1)))"},
		{"insert into t values ((select 1 from t), 2)", "insert:t(columns values(row(scalar(" + one + ") num#2)))"},
		{"insert into t select 1 from t", "insert:t(columns " + one + ")"},
		{"insert into t (select 1 from t)", "insert:t(columns " + one + ")"},
		{"insert into t ((select 1 from t))", "insert:t(columns " + one + ")"},
		{"insert into t (a) select 1 from t", "insert:t(columns(name:a) " + one + ")"},
		{"insert into t (a, b) (select 1 from t)", "insert:t(columns(name:a name:b) " + one + ")"},
		{"insert into t (a) (((select 1 from t)))", "insert:t(columns(name:a) " + one + ")"},
		{"insert into t (select 1 from t) union select 1 from t", "insert:t(columns union(" + one + " " + one + "))"},
		{"insert into t ((select 1 from t) except all select 1 from t)", "insert:t(columns except#1(" + one + " " + one + "))"},
	})
	isSyntax(t,
		"insert into t", "insert into t (a)", "insert into t values", "insert into t values ()", "insert into t () values (1)", "insert into t values 1", "insert into t values (1,)", "insert into t values (1) (2)", "insert into t values (1),", "insert into t values (1), 2", "insert into t (1) values (1)", "insert into t (t.a) values (1)", "insert into t ((a)) values (1)", "insert into t (a) (b) values (1)", "insert into t a values (1)",
		"insert t values (1)", "insert into values (1)", "insert into t u values (1)", "into t values (1)", "insert into t (values (1))", "insert into t values (1) select 1 from t", "insert into t values (select 1 from t)", "insert into t (a select 1 from t", "insert into t (a, select) values (1, 2)",
		"insert into t select 1 from t order by 1", "insert into t (select 1 from t order by 1)", "insert into t (a) values (1) where a = 1", "insert into t set a = 1", "values (1)", "insert into t (a) (a)", "insert into t (a", "insert into t (",
	)
}

func TestUpdateAndDelete(t *testing.T) {
	readAll(t, []read{
		{"update t set a = 1", "update:t(set:a(num#1) where)"},
		{"update t set a = 1, b = a, a = b = c", "update:t(set:a(num#1) set:b(col:a) set:a(=(col:b col:c)) where)"},
		{"update t set a = b or c where d", "update:t(set:a(or(col:b col:c)) where(col:d))"},
		{"update t set a = 1 where current of c", "update:t(set:a(num#1) current:c)"},
		{"update t set a = 1, b = 2 where current of t", "update:t(set:a(num#1) set:b(num#2) current:t)"},
		{"update t set a = (select 1 from t)", "update:t(set:a(scalar(" + one + ")) where)"},
		{"delete from t", "delete:t(where)"},
		{"delete from t where a = 1 and b", "delete:t(where(and(=(col:a num#1) col:b)))"},
		{"delete from t where current of c", "delete:t(current:c)"},
	})
	isSyntax(t,
		"update t", "update t set", "update t set a", "update t set a =", "update t set a = 1,", "update t set a = 1 b = 2", "update t set = 1", "update t a = 1", "update set a = 1", "t set a = 1", "update t set t.a = 1", "update t set (a) = 1", "update t set a < 1", "update t set a = 1 where", "update t set 1 = a", "update t set 'a' = 1", "update t u set a = 1", "update t as u set a = 1", "update t set a = 1 from u", "update t set where a = 1",
		"update t set a = 1 where current", "update t set a = 1 where current of", "update t set a = 1 where current c", "update t set a = 1 where of c", "update t set a = 1 current of c", "update t set a = 1 where current of c and b", "update t set a = 1 where b and current of c", "update t set a = 1 where (current of c)", "update t set a = 1 where not current of c", "update t set a = 1 where current of select", "update t set a = 1 where b where c", "update t set a = 1 order by 1",
		"delete", "delete t", "delete from", "delete from t where", "delete from t a", "delete from t, u", "delete from t where a,", "delete * from t", "delete from t where current", "delete from t where current of", "delete from t where current of c d", "delete from (t)", "delete from t where current of c where a", "from t",
	)
}

func TestTransactions(t *testing.T) {
	readAll(t, []read{
		{"commit", "commit"},
		{"rollback", "rollback"},
		{"savepoint s", "savepoint:s"},
		{"rollback to s", "rollback to:s"},
		{"rollback to savepoint s", "rollback to:s"},
		{"release s", "release:s"},
		{"release savepoint s", "release:s"},
		{"set transaction isolation level read uncommitted", "isolation"},
		{"set transaction isolation level read committed", "isolation#1"},
		{"set transaction isolation level repeatable read", "isolation#2"},
		{"set transaction isolation level serializable", "isolation#3"},
	})
	isSyntax(t,
		"commit commit", "commit work", "commit transaction", "rollback work", "rollback rollback", "rollback to", "rollback to savepoint", "rollback s", "rollback savepoint s", "rollback to s t", "rollback to to s", "rollback to savepoint savepoint", "to s",
		"savepoint", "savepoint savepoint", "savepoint s t", "savepoint 's'", "savepoint 1", "savepoint savepoint s", "savepoint to s", "release", "release savepoint", "release to s", "release savepoint savepoint s", "release s savepoint", "begin",
		"set transaction isolation level", "set transaction isolation level read", "set transaction isolation level repeatable", "set transaction isolation level uncommitted", "set transaction isolation level committed", "set transaction isolation level read repeatable", "set transaction isolation level read serializable", "set transaction isolation level serializable read", "set transaction isolation level committed read", "set transaction isolation level repeatable committed", "set transaction isolation level s", "set transaction isolation level 3", "set transaction isolation serializable", "set transaction level serializable", "set isolation level serializable", "transaction isolation level serializable", "set transaction", "set", "set transaction isolation level serializable, read committed", "set a = 1",
	)
}

func TestCursors(t *testing.T) {
	readAll(t, []read{
		{"declare c cursor for select 1 from t", "declare:c(query(" + one + " order) for)"},
		{"declare c scroll cursor for select 1 from t", "declare:c#1(query(" + one + " order) for)"},
		{"declare c cursor for select 1 from t for read only", "declare:c(query(" + one + " order) for:read only)"},
		{"declare c scroll cursor for select 1 from t for read only", "declare:c#1(query(" + one + " order) for:read only)"},
		{"declare c cursor for select 1 from t for update", "declare:c(query(" + one + " order) for:update)"},
		{"declare c scroll cursor for select 1 from t for update", "declare:c#1(query(" + one + " order) for:update)"},
		{"declare c cursor for (select 1 from t) order by 1 desc for update", "declare:c(query(" + one + " order(key:desc(num#1))) for:update)"},
		{"declare c cursor for select 1 from t union select 1 from t order by a, b for read only", "declare:c(query(union(" + one + " " + one + ") order(key:asc(col:a) key:asc(col:b))) for:read only)"},
		{"open c", "open:c"},
		{"close c", "close:c"},
	})
	isSyntax(t,
		"declare", "declare c", "declare c cursor", "declare c cursor for", "declare cursor for select 1 from t", "declare c for select 1 from t", "declare c scroll for select 1 from t", "declare c cursor select 1 from t", "declare c cursor scroll for select 1 from t", "declare scroll c cursor for select 1 from t", "declare c scroll scroll cursor for select 1 from t", "declare select cursor for select 1 from t", "c cursor for select 1 from t",
		"declare c cursor for select 1 from t for", "declare c cursor for select 1 from t for read", "declare c cursor for select 1 from t for only", "declare c cursor for select 1 from t read only", "declare c cursor for select 1 from t update", "declare c cursor for select 1 from t for update only", "declare c cursor for select 1 from t for read update", "declare c cursor for select 1 from t for update for update", "declare c cursor for select 1 from t for update of a", "declare c cursor for select 1 from t for update order by 1", "declare c cursor for (select 1 from t for update)", "declare c cursor for (select 1 from t order by 1)", "declare c cursor for delete from t", "declare c cursor for values (1)", "declare c cursor for t", "select 1 from t for update", "select 1 from t for read only",
		"open", "open c d", "open cursor c", "open 'c'", "open 1", "open select", "close", "close c d", "close all", "close cursor", "open c for select 1 from t",
	)
}

func TestFetch(t *testing.T) {
	ways := map[string]string{
		"": "next", "next": "next", "prior": "prior", "first": "first", "last": "last",
		"absolute 0": "absolute", "absolute 1": "absolute#1", "absolute -1": "absolute#-1", "absolute - 3": "absolute#-3", "absolute -0": "absolute", "absolute 007": "absolute#7", "absolute -007": "absolute#-7",
		"relative 0": "relative", "relative 5": "relative#5", "relative -5": "relative#-5", "relative -0": "relative",
	}
	for _, n := range []int64{math.MaxInt64, math.MaxInt64 - 1, -math.MaxInt64} {
		for _, way := range []string{"absolute", "relative"} {
			ways[way+" "+strconv.FormatInt(n, 10)] = way + "#" + strconv.FormatInt(n, 10)
		}
	}
	for text, tree := range ways {
		reads(t, "fetch "+text+" c", "fetch:c("+tree+")")
		reads(t, "fetch "+text+" from c", "fetch:c("+tree+")")
	}
	for _, way := range []string{"absolute", "relative", "absolute a", "absolute '1'", "absolute + 1", "absolute - - 1", "absolute (1)", "absolute 1 + 1", "absolute -", "relative -a", "absolute 1 2", "next 1", "prior 1", "first 1", "last -1", "1", "-1", "next prior", "next next", "all", "from", "prior from"} {
		isSyntax(t, "fetch "+way, "fetch "+way+" c d", "fetch "+way+" from c,", "fetch from "+way+" c")
		if way != "from" && way != "prior from" {
			isSyntax(t, "fetch "+way+" c", "fetch "+way+" from c")
		}
	}
	isSyntax(t, "fetch", "fetch from", "fetch c from", "fetch c next", "fetch from from c", "fetch next from select", "fetch select", "fetch c into a", "fetch forward c", "fetch 'c'", "fetch next c.d", "next c", "fetch of c")
	refuses(t, "fetch absolute 9223372036854775808 c", api.OutOfRange)
	refuses(t, "fetch absolute -9223372036854775808 c", api.OutOfRange)
}

// Nothing at all, and what stands behind a statement's end.
func TestEnds(t *testing.T) {
	isSyntax(t, "", " ", "-- a", ";", ";;", " ; ; ", "; commit", "a", "1", "'commit'", "(", ")", ",", ".", "=", "*", "-", "select select", "()", "(commit)", "(commit", "commit)")
	for _, s := range oneOfEach {
		tree, state := Parse(s)
		if state != api.Done {
			t.Fatalf("P14.1: %s: %s", s, state)
		}
		reads(t, s+";", show(tree))
		reads(t, s+" ;", show(tree))
		reads(t, s+"\n-- x\n;-- y", show(tree))
		isSyntax(t, s+";;", s+" ; ;", ";"+s, s+"; "+s, s+" "+s, s+"; a", s+")", "("+s, s+" ,", s+" .", s+" 1", s+" 'x'", s+" =", s+"; commit", "commit "+s, "commit; "+s, s+" select")
		if strings.HasPrefix(s, "select") || strings.HasPrefix(s, "(") {
			continue
		}
		isSyntax(t, "("+s+")", "select 1 from ("+s+") x", "delete from t where ("+s+")")
	}
}

// A word counts only as a word, a sign only as a sign: a text that says the same is a text.
func TestTextsAreNoWords(t *testing.T) {
	reads(t, "select 'select', 'from', '(' from t where 'a' = 'a''b'", `query(select(items(item(text:select) item(text:from) item(text:"(")) from(table:t(as:t)) where(=(text:a text:"a'b")) group having) order)`)
	reads(t, "select '' from t", "query(select(items(item(text)) from(table:t(as:t)) where group having) order)")
	isSyntax(t, "'select' a from t", "select a 'from' t", "select a from 't'", "select a from t 'where' b", "'commit'", "commit ';'", "insert into t values '(' 1 ')'", "select 1 from t where a '=' b", "select 1 from t where a 'and' b", "select 1 from t order by 'a'", "select a 'b' from t", "select a as 'b' from t", "select '*' '.' from t", "select count('*' from t", "delete from t where 'not' a")
}

// What Scan says other than Done is said ahead of all that stands in the tokens.
func TestWhatScanSays(t *testing.T) {
	for text, state := range map[string]api.State{
		"select @ from t": api.Syntax, "commit '": api.Syntax, "select 1a from t": api.Syntax, "\x00": api.Syntax, "commit \xff": api.Syntax,
		"select 9223372036854775808 from t": api.OutOfRange, "9223372036854775808": api.OutOfRange, "commit 9223372036854775808": api.OutOfRange, "select select 99999999999999999999": api.OutOfRange, "delete from t where a = -9223372036854775808": api.OutOfRange,
		"select '" + strings.Repeat("a", 401) + "' from t": api.TooLong, "'" + strings.Repeat("a", 401) + "'": api.TooLong,
		"select " + strings.Repeat("a", 33) + " from t": api.Syntax,
		"commit" + strings.Repeat(" ", 1995):            api.TooLarge, strings.Repeat("@", 2001): api.TooLarge,
		"select " + strings.Repeat("a,", 300) + "a from t": api.TooLarge, strings.Repeat("(", 601): api.TooLarge,
		"select " + strings.Repeat("(", 600) + "9223372036854775808": api.TooLarge,
	} {
		refuses(t, text, state)
	}
	reads(t, "commit"+strings.Repeat(" ", 1994), "commit")
	reads(t, "savepoint "+strings.Repeat("A", 32), "savepoint:"+strings.Repeat("a", 32))
	reads(t, "delete from t where '"+strings.Repeat("a", 400)+"'", "delete:t(where(text:"+strings.Repeat("a", 400)+"))")
	if tree, state := Parse("select " + strings.Repeat("a,", 298) + "a from t"); state != api.Done || len(tree.L[0].L[0].L) != 299 {
		t.Errorf("P14.1: 600 tokens: %s", state)
	}
}
