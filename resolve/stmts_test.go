package resolve

import (
	"math"
	"strings"
	"testing"

	"cardindex/api"
)

// stmts_test.go: P12.1, statements that are no queries; what is refused whatever is named.

// SInsert: the table, the columns that are named, or all; rows of as many values, that see nothing.
func TestInsert(t *testing.T) {
	is(t, "insert into t values (1, 'x', null)", `insert table=t cols=0 1 2 rows=(1, "x", null)`)
	is(t, "insert into t (c, a) values (1, ?), (? + 1, length('x'))", `insert binds=2 table=t cols=2 0 rows=(1, ?0)((?1 + 1), length("x"))`)
	is(t, "insert into u (d) values (1), (2), (3)", "insert table=u cols=1 rows=(1)(2)(3)")
	is(t, "insert into v values (x'00')", `insert table=v cols=0 rows=(x"\x00")`)
	fails(t, "insert into x values (1)", api.ErrNone)
	fails(t, "insert into x (z, z) values (z)", api.ErrNone)
	for _, text := range []string{"insert into t (z) values (1)", "insert into t (a, z, a) values (1)", "insert into t (z, a, a) values (x.a)", "insert into t (a) values (z)", "insert into t (a) values (a)", "insert into t (b) values (1), (b)", "insert into t (a, b) values (1, z), (1)", "insert into t (a, b) values (1, z), (1, t.a)"} {
		fails(t, text, api.ErrColumn)
	}
	for _, text := range []string{"insert into t (a, a) values (1, 2)", "insert into t (a, b, a) values (1)", "insert into t (b, c, c, z) values (z)"} {
		fails(t, text, api.ErrTwice)
	}
	for _, text := range []string{"insert into t values (1, 2)", "insert into t values (1, 2, 3, 4)", "insert into t (a) values (1, 2)", "insert into t (a, b) values (1)", "insert into u values (1, 2), (1)", "insert into u values (1, 2), (1, 2, 3), (z, z)", "insert into u values (z)", "insert into v (e) values (1), (z, 2)"} {
		fails(t, text, api.ErrCount)
	}
	fails(t, "insert into t (a) values (t.a)", api.ErrNone)
	fails(t, "insert into t (a) values (f(1))", api.ErrCall)
	fails(t, "insert into t (a) values (count(*))", api.ErrTotal)
	fails(t, "insert into u values (t.a, z)", api.ErrNone)
}

// SInsert of a query: it is resolved as any query, and has as many items as there are columns.
func TestInsertOfQuery(t *testing.T) {
	is(t, "insert into u select a, b from t where c = ?", "insert binds=1 table=u cols=0 1 query={a:0.0, b:0.1 from t where (0.2 = ?0)}")
	is(t, "insert into t (c, b, a) select d, * from u", "insert table=t cols=2 1 0 query={d:0.1, b:0.0, d:0.1 from u}")
	is(t, "insert into t select * from t", "insert table=t cols=0 1 2 query={a:0.0, b:0.1, c:0.2 from t}")
	is(t, "insert into v select count(*) from v", "insert table=v cols=0 query={:total0 from v grouped <count >}")
	is(t, "insert into v select distinct e as x from v order by x desc limit 1 offset ?", "insert binds=1 table=v cols=0 query={distinct x:0.0 from v order 0.0 desc limit 1 offset ?0}")
	for _, text := range []string{"insert into u select a from t", "insert into u select * from t", "insert into u (b) select *, 1 from v", "insert into t (a, b, c) select * from u", "insert into v select 1, 2"} {
		fails(t, text, api.ErrCount)
	}
	fails(t, "insert into x select z", api.ErrNone)
	fails(t, "insert into v (e, e) select z", api.ErrTwice)
	fails(t, "insert into v (z) select x.a", api.ErrColumn)
	fails(t, "insert into v select z, 1", api.ErrColumn)
	fails(t, "insert into v select e, 1 from v limit z", api.ErrColumn)
	fails(t, "insert into v select v.e, 1", api.ErrNone)
	fails(t, "insert into v select e", api.ErrColumn)
}

// SUpdate: the columns, then what they become, then Where: of the table alone, called by its name.
func TestUpdate(t *testing.T) {
	is(t, "update t set a = b + 1, c = t.a where t.b = ? or c", "update binds=1 table=t cols=0 2 exprs=(0.1 + 1), 0.0 where=((0.1 = ?0) or 0.2)")
	is(t, "update u set d = ?, b = ?", "update binds=2 table=u cols=1 0 exprs=?0, ?1")
	fails(t, "update x set z = z where z", api.ErrNone)
	for _, text := range []string{"update t set z = x.a", "update t set a = 1, z = 2, a = 3", "update t set a = z, b = x.a", "update t set a = 1 where z", "update t set a = z where x.a", "update t set d = 1"} {
		fails(t, text, api.ErrColumn)
	}
	for _, text := range []string{"update t set a = z, a = 1", "update t set b = 1, c = 2, b = x.a where z", "update t set a = 1, a = 2, z = 3"} {
		fails(t, text, api.ErrTwice)
	}
	for _, text := range []string{"update t set a = u.b", "update t set a = u.b where z", "update t set a = 1 where u.d", "update t set a = x.a, b = z"} {
		fails(t, text, api.ErrNone)
	}
	fails(t, "update t set a = f(a)", api.ErrCall)
	fails(t, "update t set a = 1 where sum(a)", api.ErrTotal)
}

// SDelete: likewise.
func TestDelete(t *testing.T) {
	is(t, "delete from t", "delete table=t")
	is(t, "delete from u where d = u.b and ? is null", "delete binds=1 table=u where=((0.1 = 0.0) and is1(?0))")
	fails(t, "delete from x where z", api.ErrNone)
	fails(t, "delete from u where a", api.ErrColumn)
	fails(t, "delete from u where t.b", api.ErrNone)
	fails(t, "delete from u where f(b)", api.ErrCall)
	fails(t, "delete from u where max(b)", api.ErrTotal)
}

// All others are what they are, whatever they name.
func TestAllOthers(t *testing.T) {
	for text, kind := range map[string]string{
		"create table t (a not null unique, b, c unique)": "table", "create table x (z, z)": "table", "create unique index i on x (z desc, z, a)": "index", "create index j on t (a)": "index",
		"drop table t": "dropt", "drop table x": "dropt", "drop index i": "dropi", "drop index x": "dropi", "begin": "begin", "commit": "commit", "rollback": "rollback",
	} {
		is(t, text, kind+" stmt="+text)
	}
}

// How many binds a statement has, wherever they stand.
func TestBinds(t *testing.T) {
	is(t, "select ?, ? + (? * ?), count(?) from t join u on ? join v on ? where ? group by ?, length(?) having ? order by ?, sum(?) desc limit ? offset ?",
		"select binds=15 query={:?0, :(?1 + (?2 * ?3)), :total0 from t u v where ((?5 and ?6) and ?7) grouped by ?8, length(?9) <count ?4> <sum ?12> having ?10 order ?11, total1 desc limit ?13 offset ?14}")
	is(t, "insert into u values (?, 1), (- ?, ? in (?, ?))", "insert binds=5 table=u cols=0 1 rows=(?0, 1)((- ?1), in0(?2, ?3, ?4))")
	is(t, "insert into v select ? from t join u on ? limit ?", "insert binds=3 table=v cols=0 query={:?0 from t u where ?1 limit ?2}")
	is(t, "update u set b = ?, d = cast(? as int) where ? is null", "update binds=3 table=u cols=0 1 exprs=?0, cast int(?1) where=is1(?2)")
}

// wrongSchemas is schemas that are not right.
func wrongSchemas() []api.Schema {
	old, missing, twice := base(), base(), base()
	old.Version = 1<<40 + 1
	missing.Indexes = missing.Indexes[1:]
	twice.Tables = append(twice.Tables, twice.Tables[0])
	return []api.Schema{{}, old, missing, twice, {Version: 1, Next: math.MaxInt, Tables: []api.Table{{}}}}
}

// wrongStatements is what is no right statement.
func wrongStatements() []api.Stmt {
	one, name := api.Expr{Kind: api.EInt, N: 1}, api.Expr{Kind: api.EName, S: "a"}
	of := func(e ...api.Expr) api.Stmt {
		q := api.Select{From: []api.Source{{Table: "t"}}}
		for _, x := range e {
			q.Items = append(q.Items, api.Item{Expr: x})
		}
		return api.Stmt{Kind: api.SSelect, Query: []api.Select{q}}
	}
	two := of(name)
	two.Query = append(two.Query, two.Query[0])
	spare := of(name)
	spare.Table = "t"
	where := said("delete from t where a")
	where.Where = append(where.Where, one)
	few := said("update t set a = 1, b = 2")
	few.Exprs = few.Exprs[:1]
	within := of(name)
	kids := []api.Expr{{Kind: api.EOp, S: "-"}}
	kids[0].Kids = kids
	within.Query[0].Where = kids
	return []api.Stmt{{}, {Kind: 12}, {Kind: 255}, {Kind: api.SSelect}, {Kind: api.SInsert, Table: "t"}, {Kind: api.SDelete}, {Kind: api.SDropT}, {Kind: api.SBegin, Name: "a"},
		of(), of(api.Expr{}), of(api.Expr{Kind: api.EThis}), of(api.Expr{Kind: api.ETotal}), of(api.Expr{Kind: api.EKey}), of(api.Expr{Kind: api.EBind, N: 1}), of(api.Expr{Kind: api.EName, S: "A"}), of(api.Expr{Kind: api.ECall, S: "count*", N: 2}), of(api.Expr{Kind: api.ECall, S: "count", N: 2, Kids: []api.Expr{one}}), of(api.Expr{Kind: api.EIn, Kids: []api.Expr{one}}), of(api.Expr{Kind: api.EOp, S: "+", Kids: []api.Expr{name, one, {Kind: api.EStar}}}),
		two, spare, where, few, within,
	}
}

// ErrSchema comes ahead of all else, then ErrTree, then what is met.
func TestRefused(t *testing.T) {
	for _, s := range wrongSchemas() {
		for _, x := range append(wrongStatements(), said("select 1"), said("select z from x"), said("begin"), said("drop table t"), said("delete from t")) {
			refuses(t, s, x, api.ErrSchema)
		}
	}
	for _, s := range []api.Schema{base(), made()} {
		for _, x := range wrongStatements() {
			refuses(t, s, x, api.ErrTree)
		}
	}
	refuses(t, made(), said("select a from t"), api.ErrNone)
	refuses(t, made(), said("delete from t"), api.ErrNone)
}

// What is nested as deep as may be, and as much as may be, is resolved.
func TestDeepAndMuch(t *testing.T) {
	got, err := Resolve(base(), said("select "+strings.Repeat("- ", 63)+"a from t group by "+strings.Repeat("- ", 62)+"a"))
	if want := "select query={:(- key0) from t grouped by "; err != api.OK || !strings.HasPrefix(spellRes(got), want) {
		t.Errorf("%s, error %d", spellRes(got), err)
	}
	got, err = Resolve(base(), said("insert into v values (?)"+strings.Repeat(", (?)", 900)))
	if err != api.OK || got.Binds != 901 || len(got.Rows) != 901 || got.Rows[900][0].N != 900 {
		t.Errorf("%d binds, error %d", got.Binds, err)
	}
}
