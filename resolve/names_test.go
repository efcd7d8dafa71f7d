package resolve

import (
	"strings"
	"testing"

	"cardindex/api"
)

// names_test.go: P12.1, expressions: names, calls, totals.

// The chapter's examples.
func TestExamples(t *testing.T) {
	s := made("create table t (a, b)", "create table u (b)")
	for text, want := range map[string]string{
		"select a, u.b from t, u where a > 1":          "a:0.0, b:1.0",
		"select a + 1, count(*) from t group by a + 1": ":key0, :total0",
	} {
		got, err := Resolve(s, said(text))
		if err != api.OK || !strings.HasPrefix(spellRes(got), "select query={"+want+" from") {
			t.Errorf("%s: %s, error %d", text, spellRes(got), err)
		}
	}
	refuses(t, s, said("select b from t, u"), api.ErrAmbig)
	refuses(t, s, said("select a from t group by b"), api.ErrPlain)
	refuses(t, s, said("select *, count(*) from t group by a"), api.ErrPlain)
	refuses(t, s, said("select sum(count(*)) from t"), api.ErrTotal)
}

// A name is the place of its source, and of its column there.
func TestNames(t *testing.T) {
	tells(t, "select a, t.b, c from t", "a:0.0, b:0.1, c:0.2 from t")
	tells(t, "select a, d, u.b, t.b, e from u, v, t", "a:2.0, d:0.1, b:0.0, b:2.1, e:1.0 from u v t")
	tells(t, "select x.a, y.b, t.c from t as x, t, t as y", "a:0.0, b:2.1, c:1.2 from t t t")
	tells(t, "select u.a, t.d from t as u, u as t", "a:0.0, d:1.1 from t u")
	for _, text := range []string{"select u.a from t", "select t.a from t as x", "select x.a from t", "select t.a", "select t.z from t as x", "select u.z from t, v", "select a.a from t as x"} {
		fails(t, text, api.ErrNone)
	}
	for _, text := range []string{"select z from t", "select d from t, v", "select a", "select t.z from t, u", "select t.d from t, u", "select t from t", "select x.e from t as x, v", "select i from t"} {
		fails(t, text, api.ErrColumn)
	}
	for _, text := range []string{"select b from t, u", "select b from u, v, t", "select a from t as x, t as y", "select d from u as x, t, u as y", "select e from v as x, v as y, v"} {
		fails(t, text, api.ErrAmbig)
	}
}

// What is no name and no call stays what it is, of kids that are resolved.
func TestAllElseStays(t *testing.T) {
	is(t, "select null, 5, 'it', x'00ff', ?, a + b, - a, not a, a is null, 1 is not null, a in (b, 2), a not in (1, ?), cast(c as int), cast('1' as text), a || b like c from t",
		`select binds=2 query={:null, :5, :"it", :x"\x00\xff", :?0, :(0.0 + 0.1), :(- 0.0), :(not 0.0), :is1(0.0), :is0(1), :in0(0.0, 0.1, 2), :in1(0.0, 1, ?1), :cast int(0.2), :cast text("1"), :((0.0 || 0.1) like 0.2) from t}`)
	is(t, "select length(a + - b), 9223372036854775807 from t", "select query={:length((0.0 + (- 0.1))), :9223372036854775807 from t}")
}

// The first error counts: kids come first, from left to right, then what they are kids of.
func TestFirstErrorOfAnExpression(t *testing.T) {
	for text, want := range map[string]api.Errno{
		"select z + x.a from t": api.ErrColumn, "select x.a + z from t": api.ErrNone, "select b + z from t, u": api.ErrAmbig, "select z + b from t, u": api.ErrColumn,
		"select f(z) from t": api.ErrColumn, "select f(a, x.a) from t": api.ErrNone, "select length(a, z, x.a) from t": api.ErrColumn, "select f(1) + z from t": api.ErrCall, "select z + f(1) from t": api.ErrColumn,
		"select length(f(z)) from t": api.ErrColumn, "select f(g(1)) from t": api.ErrCall, "select f(x.a, z) from t": api.ErrNone, "select length(distinct z) from t": api.ErrColumn,
		"select z in (x.a) from t": api.ErrColumn, "select 1 in (2, x.a, z) from t": api.ErrNone, "select not z is null from t": api.ErrColumn, "select cast(x.a as int) || z from t": api.ErrNone,
		"select f(count(z)) from t": api.ErrColumn, "select f(count(*)) from t": api.ErrCall, "select f(sum(sum(a))) from t": api.ErrTotal, "select z + sum(sum(a)) from t": api.ErrColumn, "select sum(sum(a)) + z from t": api.ErrTotal,
	} {
		fails(t, text, want)
	}
}

// A call that is no total is one of a function that there is, with so many arguments.
func TestFunctions(t *testing.T) {
	tells(t, "select length(a), upper(b), lower(c), abs(1), typeof(null), hex(a), ifnull(a, b), instr(a, b), substr(a, 1), substr(a, 1, 2), coalesce(a, b), coalesce(a, b, c, 4) from t",
		":length(0.0), :upper(0.1), :lower(0.2), :abs(1), :typeof(null), :hex(0.0), :ifnull(0.0, 0.1), :instr(0.0, 0.1), :substr(0.0, 1), :substr(0.0, 1, 2), :coalesce(0.0, 0.1), :coalesce(0.0, 0.1, 0.2, 4) from t")
	tells(t, "select coalesce("+strings.Repeat("1, ", 99)+"1)", ":coalesce("+strings.Repeat("1, ", 99)+"1)")
	for _, call := range []string{
		"f()", "f(a)", "length()", "length(a, b)", "length(*)", "length(distinct a)", "ifnull(a)", "ifnull(a, b, c)", "substr(a)", "substr(a, 1, 2, 3)", "coalesce(a)", "coalesce(distinct a)", "coalesce(*)", "coalesce(" + strings.Repeat("1, ", 100) + "1)",
		"count()", "count(a, b)", "sum()", "sum(*)", "sum(a, b)", "total(*)", "min(*)", "min(a, b)", "max()", "group_concat(a, ',')", "group_concat(*)", "f(distinct a)", "f(*)", "a(1)", "t(1)",
	} {
		fails(t, "select "+call+" from t", api.ErrCall)
		fails(t, "delete from t where "+call+" = 1", api.ErrCall)
	}
}

// A total is a call of an agg that has one kid, or, of count alone, a star.
func TestTotals(t *testing.T) {
	tells(t, "select count(*), count(a), sum(b), total(c), min(a + 1), max(1) from t",
		":total0, :total1, :total2, :total3, :total4, :total5 from t grouped <count > <count 0.0> <sum 0.1> <total 0.2> <min (0.0 + 1)> <max 1>")
	is(t, "select group_concat(?), count(distinct ?)", "select binds=2 query={:total0, :total1 grouped <group_concat ?0> <count distinct ?1>}")
	tells(t, "select count(distinct a), sum(distinct a), total(distinct a), min(distinct a), max(distinct a), group_concat(distinct a) as x from t",
		":total0, :total1, :total2, :total3, :total4, x:total5 from t grouped <count distinct 0.0> <sum distinct 0.0> <total distinct 0.0> <min distinct 0.0> <max distinct 0.0> <group_concat distinct 0.0>")
	tells(t, "select - sum(length(u.b)) + 1, count(*) in (1, 2) from t, u",
		":((- total0) + 1), :in0(total1, 1, 2) from t u grouped <sum length(1.0)> <count >")
}

// A total that is there already is that one; all that a total is made of tells it from others.
func TestSameTotals(t *testing.T) {
	tells(t, "select sum(a) + sum(b), sum(t.a), count(*), max(a), sum(distinct a), count(a), sum(b) * count(*), sum(a + 0), min(a), sum(distinct t.a), count(distinct a) from t",
		":(total0 + total1), :total0, :total2, :total3, :total4, :total5, :(total1 * total2), :total6, :total7, :total4, :total8 from t grouped <sum 0.0> <sum 0.1> <count > <max 0.0> <sum distinct 0.0> <count 0.0> <sum (0.0 + 0)> <min 0.0> <count distinct 0.0>")
	is(t, "select sum(?) + sum(?), sum(1), sum('1'), sum(x'31'), sum(cast(1 as int)), sum(cast(1 as text)), sum(1 is null), sum(1 is not null), sum(1 in (1)), sum(1 not in (1)), sum(1 in (1, 1)), sum(1 + 1), sum(1 - 1), sum(- 1), sum(not 1), sum(abs(1)), sum(hex(1)), sum(null)",
		`select binds=2 query={:(total0 + total1), :total2, :total3, :total4, :total5, :total6, :total7, :total8, :total9, :total10, :total11, :total12, :total13, :total14, :total15, :total16, :total17, :total18 grouped <sum ?0> <sum ?1> <sum 1> <sum "1"> <sum x"1"> <sum cast int(1)> <sum cast text(1)> <sum is1(1)> <sum is0(1)> <sum in0(1, 1)> <sum in1(1, 1)> <sum in0(1, 1, 1)> <sum (1 + 1)> <sum (1 - 1)> <sum (- 1)> <sum (not 1)> <sum abs(1)> <sum hex(1)> <sum null>}`)
	tells(t, "select sum(x.a), sum(y.a), sum(y.b), sum(x.a) from t as x, t as y", ":total0, :total1, :total2, :total0 from t t grouped <sum 0.0> <sum 1.0> <sum 1.1>")
	tells(t, "select count(a), b from t group by b having count(a) > sum(c) order by count(c), sum(c), count(a)",
		":total0, b:key0 from t grouped by 0.1 <count 0.0> <sum 0.2> <count 0.2> having (total0 > total1) order total2, total1, total0")
}

// ErrTotal, where none may be, or within a total: ahead of what its kids are.
func TestTotalsWhereNoneMayBe(t *testing.T) {
	for _, total := range []string{"count(*)", "sum(a)", "max(distinct b)", "sum(z)", "min(x.z)", "count(distinct f(1))", "sum(sum(z))", "1 + sum(z)", "length(count(z))", "1 in (2, count(*))", "not min(z) is null"} {
		for _, text := range []string{
			"select 1 from t where ", "select 1 from t group by ", "select 1 from t group by a, ", "select 1 from t as x join t on ", "select 1 from t limit ", "select 1 from t limit 1 offset ", "select sum(abs(", "select sum(", "select count(distinct length(",
			"delete from t where ", "update t set a = ", "update t set a = 1 where ", "update t set a = 1, b = ", "insert into t values (1, 2, ", "insert into t (a) values (1), (",
		} {
			fails(t, text+total+strings.Repeat(")", strings.Count(text, "(")-strings.Count(text, ")")), api.ErrTotal)
		}
	}
}
