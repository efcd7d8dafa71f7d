package parse

import (
	"math"
	"strings"
	"testing"

	"cardindex/api"
)

// show_test.go: P10.2, Show.

// P10.2: the chapter's examples, and each kind of statement, shown to the byte.
func TestShownStatements(t *testing.T) {
	for said, want := range map[string]string{
		"SELECT a+1*b FROM t WHERE NOT a IN (1,?)":                "select a + (1 * b) from t where not (a in (1, ?))",
		"select(a)as b,*,t.*,t.a;":                                "select a as b, *, t.*, t.a",
		"select distinct\n1":                                      "select distinct 1",
		"select a from t as u,v join w as x on(a)=b,y":            "select a from t as u, v join w as x on a = b, y",
		"select a where b group by c,d having e":                  "select a where b group by c, d having e",
		"select a order by b asc,c,d desc,-e":                     "select a order by b, c, d desc, - e",
		"select a limit 1offset 2":                                "select a limit 1 offset 2",
		"select a order by(b)desc limit(1)":                       "select a order by b desc limit 1",
		"insert into t(a,b)values(1,2),(3,4)":                     "insert into t (a, b) values (1, 2), (3, 4)",
		"insert into t values(1)":                                 "insert into t values (1)",
		"insert into t(a)select 1":                                "insert into t (a) select 1",
		"insert into t select*from u":                             "insert into t select * from u",
		"update t set a=1":                                        "update t set a = 1",
		"update t set a=b=c,b=(1)where not a":                     "update t set a = b = c, b = 1 where not a",
		"delete from t":                                           "delete from t",
		"DELETE FROM T WHERE(A)":                                  "delete from t where a",
		"create table t(a)":                                       "create table t (a)",
		"create table t(a unique,b not null,c,d not null unique)": "create table t (a unique, b not null, c, d not null unique)",
		"create index i on t(a asc)":                              "create index i on t (a)",
		"create unique index i on t(a desc,b)":                    "create unique index i on t (a desc, b)",
		"drop table t;":                                           "drop table t",
		"drop index i":                                            "drop index i",
		"begin;":                                                  "begin",
		"commit":                                                  "commit",
		"rollback":                                                "rollback",
	} {
		s, f := Parse(said)
		if f != (api.Fault{}) {
			t.Errorf("%q: fault %v", said, f)
		}
		isShown(t, s, want)
		says(t, want, s)
	}
}

// P10.2: each expression, shown to the byte; a kid of an operation in parentheses if it is one, and no other one.
func TestShownExpressions(t *testing.T) {
	sum, isNull, isIn := op("+", a, b), is(1, a), in(0, a, b)
	for want, e := range map[string]api.Expr{
		"null": null, "0": number(0), "9223372036854775807": number(math.MaxInt64), "''": text(""), "'it''s'": text("it's"), "x''": blob(""), "x'0aff'": blob("\n\xff"), "?": bind(0), "a": a, "t.a": nameOf("t", "a"),
		"' ( '": text(" ( "), "'('": text("("), "'.'": text("."), "','": text(","), "')'": text(")"), "'' || ','": op("||", text(""), text(",")), "f('(', ')')": call("f", 0, text("("), text(")")),
		"f()": call("f", 0), "f(a)": call("f", 0, a), "f(a, b, 1)": call("f", 0, a, b, one), "f(distinct a)": call("f", 1, a), "count(*)": call("count", 2), "f(a + b, a is null, a in (b))": call("f", 0, sum, isNull, isIn), "f(distinct a + b)": call("f", 1, sum), "f(f(f()))": call("f", 0, call("f", 0, call("f", 0))),
		"cast(a as int)": cast(a, "int"), "cast(a + b as text)": cast(sum, "text"), "cast(a is null as int)": cast(isNull, "int"), "cast(cast(1 as int) as text)": cast(cast(one, "int"), "text"),
		"a + b": sum, "a - b": op("-", a, b), "a * b": op("*", a, b), "a / b": op("/", a, b), "a % b": op("%", a, b), "a || b": op("||", a, b), "a = b": op("=", a, b), "a <> b": op("<>", a, b), "a < b": op("<", a, b), "a <= b": op("<=", a, b), "a > b": op(">", a, b), "a >= b": op(">=", a, b), "a and b": op("and", a, b), "a or b": op("or", a, b), "a like b": op("like", a, b),
		"- a": op("-", a), "not a": op("not", a), "- (- a)": op("-", op("-", a)), "not (not a)": op("not", op("not", a)), "- (a + b)": op("-", sum), "not (a is null)": op("not", isNull), "- (a in (b))": op("-", isIn), "- f(a)": op("-", call("f", 0, a)), "- 1": op("-", one), "not cast(a as int)": op("not", cast(a, "int")), "- t.a": op("-", nameOf("t", "a")),
		"(a + b) + c": op("+", sum, c), "c + (a + b)": op("+", c, sum), "(a is null) = (a in (b))": op("=", isNull, isIn), "(a in (b)) and (a is null)": op("and", isIn, isNull), "(- a) * (not b)": op("*", op("-", a), op("not", b)), "f(a) or cast(a as int)": op("or", call("f", 0, a), cast(a, "int")), "'a' like x''": op("like", text("a"), blob("")), "null = ?": op("=", null, bind(0)),
		"a is null": isNull, "a is not null": is(0, a), "(a + b) is null": is(1, sum), "(a is null) is not null": is(0, isNull), "(a in (b)) is null": is(1, isIn), "(not a) is null": is(1, op("not", a)), "f() is null": is(1, call("f", 0)), "null is null": is(1, null),
		"a in (b)": isIn, "a not in (b, c)": in(1, a, b, c), "(a + b) in (a + b)": in(0, sum, sum), "(a is null) in (a is null, a in (b))": in(0, isNull, isNull, isIn), "(a in (b)) not in (a in (b), - a)": in(1, isIn, isIn, op("-", a)), "f(a) in (f(b))": in(0, call("f", 0, a), call("f", 0, b)),
	} {
		isShown(t, tell(e), "select "+want)
		isShown(t, choose(api.Select{Items: []api.Item{{Expr: e, As: "c"}}, From: []api.Source{{Table: "t"}}}), "select "+want+" as c from t")
		isShown(t, api.Stmt{Kind: api.SDelete, Table: "t", Where: list1(e)}, "delete from t where "+want)
		isShown(t, api.Stmt{Kind: api.SInsert, Table: "t", Rows: [][]api.Expr{{e}, {a}}}, "insert into t values ("+want+"), (a)")
		isShown(t, choose(api.Select{Items: items(star), Order: []api.Key{{Expr: e, Desc: true}, {Expr: a}}}), "select * order by "+want+" desc, a")
	}
}

// P10.2: as long as a statement may be, and a byte longer.
func TestShownLong(t *testing.T) {
	x := func(n int) string { return strings.Repeat("x", n) }
	for _, s := range []struct {
		make func(n int) api.Stmt
		want func(n int) string
	}{
		{func(n int) api.Stmt { return tell(text(x(n))) }, func(n int) string { return "select '" + x(n) + "'" }},
		{func(n int) api.Stmt { return tell(text(strings.Repeat("'", n))) }, func(n int) string { return "select '" + strings.Repeat("''", n) + "'" }},
		{func(n int) api.Stmt { return tell(blob(x(n))) }, func(n int) string { return "select x'" + strings.Repeat("78", n) + "'" }},
		{func(n int) api.Stmt { return api.Stmt{Kind: api.SDropT, Table: "x" + x(n)} }, func(n int) string { return "drop table x" + x(n) }},
		{func(n int) api.Stmt { return api.Stmt{Kind: api.SDropI, Name: "x" + x(n)} }, func(n int) string { return "drop index x" + x(n) }},
		{func(n int) api.Stmt { return tell(a, name("x"+x(n)), b) }, func(n int) string { return "select a, x" + x(n) + ", b" }},
		{func(n int) api.Stmt { return tell(call("x"+x(n), 1, a)) }, func(n int) string { return "select x" + x(n) + "(distinct a)" }},
		{func(n int) api.Stmt { return tell(api.Expr{Kind: api.EStar, T: "x" + x(n)}) }, func(n int) string { return "select x" + x(n) + ".*" }},
		{func(n int) api.Stmt { return api.Stmt{Kind: api.SDelete, Table: "t", Where: list1(is(0, text(x(n))))} }, func(n int) string { return "delete from t where '" + x(n) + "' is not null" }},
		{func(n int) api.Stmt {
			return api.Stmt{Kind: api.SIndex, Name: "i", Table: "t", Keys: []api.KeyCol{{Name: "x" + x(n)}, {Name: "a", Desc: true}}}
		}, func(n int) string { return "create index i on t (x" + x(n) + ", a desc)" }},
	} {
		size := func(n int) int { return len(s.want(n)) }
		most := (api.MaxText - size(0)) / (size(1) - size(0))
		isShown(t, s.make(most), s.want(most))
		says(t, s.want(most), s.make(most))
		for n := most + 1; n <= most+3; n++ {
			isLong(t, s.make(n))
		}
	}
	isLong(t, tell(text(x(1<<26))))
	isLong(t, tell(blob(x(api.MaxText))))
	isLong(t, tell(call("f", 0, many(1900, text(x(1<<24)))...)))
	isLong(t, tell(call("f", 0, many(1900, text(x(30000)))...)))
	isLong(t, tell(append(many(900, name(x(80))), text(x(10)))...))
	isLong(t, choose(api.Select{Items: items(text(x(1 << 17))), Where: list1(a)}))
}

// isLong asks whether a statement is right, but too long to be shown.
func isLong(t *testing.T, s api.Stmt) {
	t.Helper()
	got, err := Show(s)
	if !Right(s) || err != api.ErrLong || got != "" {
		t.Fatalf("right %v, error %d, %q", Right(s), err, short(got))
	}
}

// P10.2: what is not right is told ahead of what is too long.
func TestShownWrong(t *testing.T) {
	long := text(strings.Repeat("x", api.MaxText))
	isLong(t, tell(long))
	isWrong(t, "too long, and no name", tell(long, name("")))
	isWrong(t, "too long, and no bind", tell(long, bind(1)))
	isWrong(t, "too long, and too deep", tell(nested(long, api.MaxNest, func(e api.Expr) api.Expr { return op("-", e) })))
	isWrong(t, "too long, and too much", tell(many(1001, long)...))
	isWrong(t, "too long, and nothing", api.Stmt{Query: []api.Select{{Items: items(long)}}})
}
