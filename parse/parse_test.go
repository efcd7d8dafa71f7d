package parse

import (
	"slices"
	"strings"
	"testing"

	"cardindex/api"
)

// parse_test.go: P10.1, what a text says.

// P10.1: each kind of statement.
func TestStatements(t *testing.T) {
	for text, want := range map[string]api.Stmt{
		"insert into t values (1), ('x')":                          {Kind: api.SInsert, Table: "t", Rows: [][]api.Expr{{one}, {text("x")}}},
		"insert into t (a, b) values (1, ?), (?, b)":               {Kind: api.SInsert, Table: "t", Names: []string{"a", "b"}, Rows: [][]api.Expr{{one, bind(0)}, {bind(1), b}}},
		"insert into t select 1":                                   {Kind: api.SInsert, Table: "t", Query: []api.Select{{Items: items(one)}}},
		"insert into t (a) select *":                               {Kind: api.SInsert, Table: "t", Names: []string{"a"}, Query: []api.Select{{Items: items(star)}}},
		"update t set a = 1":                                       {Kind: api.SUpdate, Table: "t", Names: []string{"a"}, Exprs: list1(one)},
		"update t set a = b = 1, b = a where b":                    {Kind: api.SUpdate, Table: "t", Names: []string{"a", "b"}, Exprs: list1(op("=", b, one), a), Where: list1(b)},
		"delete from t":                                            {Kind: api.SDelete, Table: "t"},
		"delete from t where a":                                    {Kind: api.SDelete, Table: "t", Where: list1(a)},
		"create table t (a)":                                       {Kind: api.STable, Table: "t", Cols: []api.Col{{Name: "a"}}},
		"create table t (a unique, b not null, c not null unique)": {Kind: api.STable, Table: "t", Cols: []api.Col{{Name: "a", Unique: true}, {Name: "b", NotNull: true}, {Name: "c", NotNull: true, Unique: true}}},
		"create index i on t (a)":                                  {Kind: api.SIndex, Name: "i", Table: "t", Keys: []api.KeyCol{{Name: "a"}}},
		"create unique index i on t (a asc, b desc, c)":            {Kind: api.SIndex, Name: "i", Table: "t", Unique: true, Keys: []api.KeyCol{{Name: "a"}, {Name: "b", Desc: true}, {Name: "c"}}},
		"drop table t":                                             {Kind: api.SDropT, Table: "t"},
		"drop index i":                                             {Kind: api.SDropI, Name: "i"},
		"begin":                                                    {Kind: api.SBegin},
		"commit":                                                   {Kind: api.SCommit},
		"rollback":                                                 {Kind: api.SRollback},
		"Drop\tTABLE -- a; b\n T1--":                               {Kind: api.SDropT, Table: "t1"},
		"select 1":                                                 tell(one),
		"select *":                                                 tell(star),
		"select *, t.*, t.a, a.* ":                                 tell(star, api.Expr{Kind: api.EStar, T: "t"}, nameOf("t", "a"), api.Expr{Kind: api.EStar, T: "a"}),
		"select t . *, t --\n.\n* , t . a * a":                     tell(api.Expr{Kind: api.EStar, T: "t"}, api.Expr{Kind: api.EStar, T: "t"}, op("*", nameOf("t", "a"), a)),
		"select a as b, 1 as c":                                    choose(api.Select{Items: []api.Item{{Expr: a, As: "b"}, {Expr: one, As: "c"}}}),
		"select distinct a":                                        choose(api.Select{Distinct: true, Items: items(a)}),
		"select a from t":                                          choose(api.Select{Items: items(a), From: []api.Source{{Table: "t"}}}),
		"select a from t as u, v":                                  choose(api.Select{Items: items(a), From: []api.Source{{Table: "t", As: "u"}, {Table: "v"}}}),
		"select a from t join u as v on a = b, w":                  choose(api.Select{Items: items(a), From: []api.Source{{Table: "t"}, {Table: "u", As: "v", On: list1(op("=", a, b))}, {Table: "w"}}}),
		"select a where b":                                         choose(api.Select{Items: items(a), Where: list1(b)}),
		"select a group by b, c":                                   choose(api.Select{Items: items(a), Group: list1(b, c)}),
		"select a group by b having c":                             choose(api.Select{Items: items(a), Group: list1(b), Having: list1(c)}),
		"select a order by b, a + c desc, c asc":                   choose(api.Select{Items: items(a), Order: []api.Key{{Expr: b}, {Expr: op("+", a, c), Desc: true}, {Expr: c}}}),
		"select a limit 1":                                         choose(api.Select{Items: items(a), Limit: list1(one)}),
		"select a limit 1 offset 2":                                choose(api.Select{Items: items(a), Limit: list1(one), Offset: list1(two)}),
		"select a from t where a group by b order by c limit 1":    choose(api.Select{Items: items(a), From: []api.Source{{Table: "t"}}, Where: list1(a), Group: list1(b), Order: []api.Key{{Expr: c}}, Limit: list1(one)}),
	} {
		says(t, text, want)
		says(t, text+"\n;", want)
		says(t, " -- ahead\n"+text+" ; -- behind", want)
		fails(t, text+"\n;;", api.ErrSyntax, len(text)+2)
	}
}

// P10.1: each expression; which operation binds closer, and to the left.
func TestExpressions(t *testing.T) {
	for text, want := range map[string]api.Expr{
		"null": null, "NULL": null,
		"0": number(0), "007": number(7), "9223372036854775807": number(1<<63 - 1),
		"''": text(""), "'It''s'": text("It's"), "x''": blob(""), "X'0aFF'": blob("\n\xff"),
		"A": a, "t.a": nameOf("t", "a"), "T .\n A": nameOf("t", "a"), "x": name("x"), "_1": name("_1"),
		"(a)": a, "(((1)))": one, "( t . a )": nameOf("t", "a"),
		"f()": call("f", 0), "F ( )": call("f", 0), "count(*)": call("count", 2), "f(a)": call("f", 0, a), "f(a, b, 1)": call("f", 0, a, b, one),
		"f(distinct a)": call("f", 1, a), "f(distinct a or b)": call("f", 1, op("or", a, b)), "f((a))": call("f", 0, a),
		"f(g(a), h())": call("f", 0, call("g", 0, a), call("h", 0)), "f(a*b)": call("f", 0, op("*", a, b)),
		"cast(a as int)": cast(a, "int"), "CAST(a or b as Text)": cast(op("or", a, b), "text"),
		"- 1": op("-", one), "-a": op("-", a), "- -1": op("-", op("-", one)), "-(1)": op("-", one), "-t.a": op("-", nameOf("t", "a")),
		"1 - - 1": op("-", one, op("-", one)), "1 -1": op("-", one, one), "-1-1": op("-", op("-", one), one), "a*-b": op("*", a, op("-", b)),
		"-a*b": op("*", op("-", a), b), "-7/2": op("/", op("-", number(7)), two), "-a.b": op("-", nameOf("a", "b")),
		"a+b+c": op("+", op("+", a, b), c), "a-b-c": op("-", op("-", a, b), c), "a-(b-c)": op("-", a, op("-", b, c)), "a||b+c": op("+", op("||", a, b), c), "a+b||c": op("||", op("+", a, b), c),
		"a*b*c": op("*", op("*", a, b), c), "a/b%c": op("%", op("/", a, b), c), "a+b*c": op("+", a, op("*", b, c)), "a*b+c": op("+", op("*", a, b), c), "(a+b)*c": op("*", op("+", a, b), c), "a||b*c": op("||", a, op("*", b, c)),
		"a=b": op("=", a, b), "a<>b": op("<>", a, b), "a<b": op("<", a, b), "a<=b": op("<=", a, b), "a>b": op(">", a, b), "a>=b": op(">=", a, b), "a like b": op("like", a, b),
		"a+b=c-1": op("=", op("+", a, b), op("-", c, one)), "(a=b)=c": op("=", op("=", a, b), c), "a=(b=c)": op("=", a, op("=", b, c)), "a like b || c": op("like", a, op("||", b, c)), "a<-b": op("<", a, op("-", b)),
		"a is null": is(1, a), "a is not null": is(0, a), "a+b is null": is(1, op("+", a, b)), "-a is null": is(1, op("-", a)), "(a is null) is not null": is(0, is(1, a)), "null is null": is(1, null),
		"a in (b)": in(0, a, b), "a not in (b, c)": in(1, a, b, c), "a||b in (1)": in(0, op("||", a, b), one), "a in (b or c, not a)": in(0, a, op("or", b, c), op("not", a)), "(a in (b)) in (c)": in(0, in(0, a, b), c),
		"not a": op("not", a), "not not a": op("not", op("not", a)), "not a=b": op("not", op("=", a, b)), "not a in (b)": op("not", in(0, a, b)), "not a is null": op("not", is(1, a)), "not a and b": op("and", op("not", a), b), "not (a and b)": op("not", op("and", a, b)), "not a + b": op("not", op("+", a, b)), "not -a": op("not", op("-", a)), "not a not in (b)": op("not", in(1, a, b)),
		"a and b and c": op("and", op("and", a, b), c), "a and (b and c)": op("and", a, op("and", b, c)), "a or b or c": op("or", op("or", a, b), c), "a or b and c": op("or", a, op("and", b, c)), "a and b or c": op("or", op("and", a, b), c), "(a or b) and c": op("and", op("or", a, b), c),
		"a and not b": op("and", a, op("not", b)), "a or not b and c": op("or", a, op("and", op("not", b), c)), "a = b and b < c": op("and", op("=", a, b), op("<", b, c)), "a is null and b": op("and", is(1, a), b), "a in (b) or c": op("or", in(0, a, b), c),
		"? + ?": op("+", bind(0), bind(1)), "f(?, ?) in (?, (?))": in(0, call("f", 0, bind(0), bind(1)), bind(2), bind(3)), "cast(? as int)": cast(bind(0), "int"),
		"0 - 9223372036854775807 - 1": op("-", op("-", number(0), number(1<<63-1)), one),
	} {
		says(t, "select "+text, tell(want))
		says(t, "select c, "+text+" as d", choose(api.Select{Items: []api.Item{{Expr: c}, {Expr: want, As: "d"}}}))
		says(t, "delete from t where "+text+";", api.Stmt{Kind: api.SDelete, Table: "t", Where: list1(want)})
	}
}

// P10.1: each ? is the next bind, in the order in which they stand in the text.
func TestBinds(t *testing.T) {
	says(t, "select ?, ?+? from t join u on ? where ? group by ?, ? having ? order by ?, ? limit ? offset ?", choose(api.Select{
		Items: items(bind(0), op("+", bind(1), bind(2))),
		From:  []api.Source{{Table: "t"}, {Table: "u", On: list1(bind(3))}},
		Where: list1(bind(4)), Group: list1(bind(5), bind(6)), Having: list1(bind(7)),
		Order: []api.Key{{Expr: bind(8)}, {Expr: bind(9)}}, Limit: list1(bind(10)), Offset: list1(bind(11)),
	}))
	says(t, "update t set a = ?, b = ? where ?", api.Stmt{Kind: api.SUpdate, Table: "t", Names: []string{"a", "b"}, Exprs: list1(bind(0), bind(1)), Where: list1(bind(2))})
	says(t, "insert into t values (?, ?), (?)", api.Stmt{Kind: api.SInsert, Table: "t", Rows: [][]api.Expr{{bind(0), bind(1)}, {bind(2)}}})
	says(t, "select '?', ? -- ?\n, x'3f', ?", tell(text("?"), bind(0), blob("?"), bind(1)))
}

// P10.1: the first token that may not stand where it does: behind ^ in the text, or its end.
func TestWhatMayNotStand(t *testing.T) {
	for _, marked := range slices.Concat(wrongWholes(), wrongItems(), wrongQueries(), wrongChanges(), wrongSchemas(), wrongExpressions()) {
		at := strings.Index(marked, "^")
		text := marked[:at] + marked[at+1:]
		fails(t, text, api.ErrSyntax, at)
		if at < len(text) { // what stands behind is not asked
			fails(t, text+" @", api.ErrSyntax, at)
			fails(t, text+" select '", api.ErrSyntax, at)
		}
		fails(t, "\n "+text, api.ErrSyntax, at+2)
	}
}

func wrongWholes() []string {
	return []string{
		"^", "  ^", "^;", "^a", "^1", "^'a'", "^(select 1)", "^*", "^from t", "^values (1)", "^unique", "^?", "^+", "^distinct a", "^set a = 1",
		"begin ^begin", "begin ^a", "begin;^;", "begin; ^commit", "begin ;^1", "commit ^1", "rollback ^to a", "begin^,", "begin^(", "begin ^as a",
		"drop ^", "drop ^t", "drop table ^", "drop table ^1", "drop table t^, u", "drop table t^.u", "drop index ^", "drop index ^unique", "drop index i ^on t", "drop ^unique index i", "drop table t ^table u", "drop table ^'t'", "drop table ^select",
	}
}

func wrongItems() []string {
	return []string{
		"select ^", "select ^;", "select ^from t", "select a,^", "select a,^,b", "select a ^b", "select a as ^", "select a as ^1", "select a as ^select", "select a as ^'b'", "select a as b^.c", "select a as b ^as c",
		"select distinct ^", "select distinct ^distinct a", "select distinct^, a", "select ^)", "select a^)", "select a ^1", "select 1 ^1", "select a ^select b", "select a ^all",
		"select * ^a", "select * ^as a", "select * ^+ 1", "select *^*", "select *^.a", "select * ^is null", "select t.* ^as a", "select t.* ^+ 1", "select t.*^.a", "select t.*^.*", "select t.* ^is null", "select t.*^(1)", "select t.* ^and a",
		"select t.^", "select t.^1", "select t.^select", "select t.^'a'", "select t.a^.b", "select t.a^.*", "select t.^(a)", "select ^.a", "select t.a^(1)", "select f(1)^.a", "select f.^(a)", "select t.^.a",
		"select a + ^*", "select (^*)", "select (t.^*)", "select - t.^*", "select not t.^*", "select f(t.^*)", "select f(a, ^*)", "select 1 + t.^*", "select a from t where ^*", "select a from t where t.^*", "select a order by ^*", "select a group by t.^*", "select a, f(*^, a)", "select a limit ^*", "select a in (^*)", "select a from t join u on t.^*",
	}
}

func wrongQueries() []string {
	return []string{
		"select a from ^", "select a from ^1", "select a from ^(t)", "select a from t ^u", "select a from t,^", "select a from ^, t", "select a from t as ^", "select a from t as ^1", "select a from t^.u", "select a from t ^from u", "select a from ^*", "select a from t^(1)",
		"select a from t join ^", "select a from t join u^", "select a from t join u ^, v", "select a from t join u as v ^where a", "select a from t join u ^join v on a", "select a from t ^on a", "select a from t, u ^on a", "select a from t join u on ^", "select a from t join u on a ^on b", "select a ^join u on a", "select a from ^join u on a",
		"select a where ^", "select a where a ^where b", "select a where a ^from t", "select a where a^, b", "select a where a ^as b", "select a where a ^desc",
		"select a group ^a", "select a group by ^", "select a group by a,^", "select a ^having b", "select a from t ^having b", "select a group by a having ^", "select a group by a having b ^having c", "select a group by a having b ^group by c", "select a group by a having b^, c", "select a group by a order by b ^having c", "select a group by a ^where b", "select a group by a ^asc", "select a group by a ^as b", "select a ^by b",
		"select a order ^a", "select a order by ^", "select a order by a asc ^desc", "select a order by a desc ^asc", "select a order by ^desc", "select a order by a desc,^", "select a order by a ^group by b", "select a order by a ^order by b", "select a order by a ^as b", "select a order by a ^where b",
		"select a limit ^", "select a limit 1^, 2", "select a ^offset 1", "select a order by b ^offset 1", "select a limit 1 offset ^", "select a limit 1 offset 2 ^limit 3", "select a limit 1 offset 2 ^offset 3", "select a limit 1 ^limit 2", "select a limit 1 ^order by a", "select a limit 1 ^where b", "select a limit 1 offset 2^, 3",
	}
}

func wrongChanges() []string {
	return []string{
		"insert ^t", "insert into ^", "insert into ^(a) values (1)", "insert into t ^", "insert into t (^) values (1)", "insert into t (a^", "insert into t (a,^) values (1)", "insert into t (^1) values (1)", "insert into t (a ^b) values (1)", "insert into t (a^.b) values (1)", "insert into t (a) ^", "insert into t (a) ^(b) values (1)", "insert into t ^set a = 1", "insert into t (^select 1)", "insert into t ^as u values (1)", "insert into t select ^", "insert into t^.u values (1)",
		"insert into t values ^", "insert into t values ^1", "insert into t values (^)", "insert into t values (1^", "insert into t values (1,^)", "insert into t values (1)^(2)", "insert into t values (1),^", "insert into t values (1),^select 1", "insert into t values (1) ^where a", "insert into t values (1) ^select 1", "insert into t values (^*)", "insert into t values (1 ^as a)", "insert into t select 1 ^values (1)",
		"update ^", "update ^set a = 1", "update t ^a = 1", "update t set ^", "update t set ^1 = a", "update t set a^", "update t set a ^<> 1", "update t set a = ^", "update t set a = 1,^", "update t set a = 1, b^", "update t set a = 1 ^b = 2", "update t set a^.b = 1", "update t set ^(a) = 1", "update t ^as u set a = 1", "update t set a = 1 where ^", "update t set a = 1 ^from u", "update t set a = b = c ^= 1", "update t set a = 1 where a^, b = 2", "update t set a = 1 where a ^limit 1", "update t set a = ^*",
		"delete ^t", "delete from ^", "delete from t^, u", "delete from t ^a", "delete from t where ^", "delete from t where a ^limit 1", "delete from t ^as u", "delete from ^where a", "delete from t where a ^where b",
	}
}

func wrongSchemas() []string {
	return []string{
		"create ^", "create ^t", "create table ^", "create table ^(a)", "create table t ^", "create table t ^a", "create table t (^)", "create table t (^1)", "create table t (a^", "create table t (a ^b)", "create table t (a,^)", "create table t (a not ^)", "create table t (a not ^unique)", "create table t (a ^null)", "create table t (a unique ^not null)", "create table t (a not null ^not null)", "create table t (a unique ^unique)", "create table t (a ^int)", "create table t (a) ^(b)", "create table t (a ^desc)", "create table t ^as select 1", "create ^drop", "create table t (^unique)", "create table t (a^.b)",
		"create unique ^table t (a)", "create unique ^unique index i on t (a)", "create unique ^", "create table ^table (a)",
		"create index ^", "create index ^on t (a)", "create index i ^", "create index i ^(a)", "create index i on ^", "create index i on ^(a)", "create index i on t ^", "create index i on t (^)", "create index i on t (a^", "create index i on t (a desc ^asc)", "create index i on t (a ^unique)", "create index i on t (a^+b)", "create index i on t (a)^,", "create index i on t (^1)", "create index i on t (f^(a))", "create index i on t (a) ^where a", "create index i on t (a,^)", "create index ^unique i on t (a)", "create index i on t (a ^b)",
	}
}

func wrongExpressions() []string {
	return []string{
		"select a = b ^= c", "select a < b ^> c", "select a like b ^like c", "select a = b ^is null", "select a is null ^is null", "select a is ^", "select a is ^a", "select a is not ^", "select a is not ^not null", "select a is null ^= b", "select a is ^= b", "select a is null ^not in (b)",
		"select a in ^", "select a in ^b", "select a in (^)", "select a in (b^", "select a in (b,^)", "select a in (^select b)", "select a in (b) ^in (c)", "select a in (b) ^= c", "select a = b ^in (c)", "select a = b ^not in (c)", "select a in (b) ^is null",
		"select a not ^", "select a not ^b", "select a not ^like b", "select a not ^= b", "select a not ^not in (b)", "select a not ^null", "select a ^null", "select ^is null", "select ^in (a)", "select ^= a", "select a ^between 1 and 2",
		"select not ^", "select not ^and a", "select a and ^", "select a and ^and b", "select a or ^", "select ^or a", "select a + ^", "select a + ^+ b", "select ^+ a", "select a * ^/ b", "select a || ^", "select a || ^|| b", "select a = ^not b", "select a + ^not b", "select - ^not a", "select a - ^", "select -^", "select ^like a", "select a = ^= b", "select a(b ^c)",
		"select ^between", "select (^", "select (^)", "select (a^", "select (a^,b)", "select (a ^b)", "select ((a)^", "select (a)^)", "select (^select a)", "select (a ^as b)", "select (a)^(b)", "select (a)^.b",
		"select f(^", "select f(a^", "select f(a,^)", "select f(^,a)", "select f(* ^a)", "select f(*^", "select f(distinct ^)", "select f(distinct a^, b)", "select f(distinct ^*)", "select f(distinct ^distinct a)", "select f(a, ^distinct b)", "select (^distinct a)", "select f ^1", "select f(a ^b)", "select f(a ^as b)", "select f()^(a)", "select f(^select a)",
		"select cast ^a", "select cast(^", "select cast(^)", "select cast(a^)", "select cast(a^, int)", "select cast(a as ^)", "select cast(a as ^b)", "select cast(a as ^blob)", "select cast(a as ^'int')", "select cast(a as int^", "select cast(a as int ^int)", "select cast(^*)", "select cast(a as ^null)", "select cast(a ^int)", "select cast(^distinct a as int)",
		"select ^int", "select ^text", "select ^int(a)", "select ^text('a')", "select ^values", "select a as ^int", "select ^like(a)", "select ^index",
		"select ?^?", "select ?^1", "select ? ^a", "select 'a' ^'b'", "select 'a'^(1)", "select 1^(2)", "select 1^.2", "select 1 ^a", "select 1^a", "select null ^null", "select x'00' ^x'00'", "select null^(a)", "select null^.a", "select 'a'^.b", "select ?^.a",
	}
}

// P10.1: a fault of the tokens, where it is read: one token ahead, so that what may not stand ahead of it is told first, and what may not behind it is not told.
func TestFaultsOfTokens(t *testing.T) {
	for marked, err := range map[string]api.Errno{
		"^@": api.ErrToken, "^'a": api.ErrToken, "^99999999999999999999": api.ErrToken, " ^\xff": api.ErrToken,
		"select ^@": api.ErrToken, "select a ^'b": api.ErrToken, "select a ^x'0'": api.ErrToken, "select a^@ from": api.ErrToken, "select a; ^@": api.ErrToken, "begin ^|": api.ErrToken, "begin;^!": api.ErrToken,
		"select ^9223372036854775808": api.ErrToken, "select -^9223372036854775808": api.ErrToken, "select t.^@": api.ErrToken, "select t^@.a": api.ErrToken, "select f(^@": api.ErrToken, "select a in (1, ^x'g')": api.ErrToken, "select a not ^@": api.ErrToken, "insert into t (^\"a\")": api.ErrToken,
		"select a ^b @": api.ErrSyntax, "select ^from @": api.ErrSyntax, "^a 'b": api.ErrSyntax, "select a ^1 x'0'": api.ErrSyntax, "begin;^; @": api.ErrSyntax, "select t.^1 @": api.ErrSyntax, "select t.* ^a @": api.ErrSyntax, "^;@": api.ErrSyntax,
	} {
		at := strings.Index(marked, "^")
		fails(t, marked[:at]+marked[at+1:], err, at)
		fails(t, marked[:at]+marked[at+1:]+" @ )", err, at)
	}
	says(t, "begin"+strings.Repeat(" ", api.MaxText-5), api.Stmt{Kind: api.SBegin})
	fails(t, "begin"+strings.Repeat(" ", api.MaxText-4), api.ErrLong, 0)
	fails(t, strings.Repeat("@", api.MaxText+1), api.ErrLong, 0)
	fails(t, strings.Repeat("x", 1<<24), api.ErrLong, 0)
	says(t, "drop table "+strings.Repeat("x", api.MaxText-11), api.Stmt{Kind: api.SDropT, Table: strings.Repeat("x", api.MaxText-11)})
}
