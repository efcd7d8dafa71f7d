package resolve

import (
	"slices"
	"strconv"
	"strings"
	"testing"

	"cardindex/api"
)

// query_test.go: P12.1, queries, part by part.

// (1) The sources are the tables of From, in order; each is called by its As, or by its table's name.
func TestSources(t *testing.T) {
	tells(t, "select 1", ":1")
	tells(t, "select 1 from t", ":1 from t")
	tells(t, "select 1 from v, t as x join u on 1, t, u as v2 join v as t2 on 2", ":1 from v t u t u v where (1 and 2)")
	tells(t, "select 1 from t as u, u as t", ":1 from t u")
	for _, text := range []string{"select 1 from x", "select 1 from i", "select 1 from t, x as u", "select 1 from t as x, x", "select 1 from t join x on z", "select x.z from x"} {
		fails(t, text, api.ErrNone)
	}
	for _, text := range []string{"select 1 from t, t", "select 1 from t as x, u as x", "select 1 from t, u as t", "select 1 from t as u, u", "select 1 from t, u, v as u", "select 1 from t join t on z"} {
		fails(t, text, api.ErrTwice)
	}
	fails(t, "select 1 from x, t, t", api.ErrNone)
	fails(t, "select 1 from t, t, x", api.ErrTwice)
	fails(t, "select 1 from t, x as t", api.ErrNone)
}

// sources is so many sources of the table t, called x0, x1 ..
func sources(n int) string {
	var all []string
	for i := range n {
		all = append(all, "t as x"+strconv.Itoa(i))
	}
	return strings.Join(all, ", ")
}

// (1) ErrMany of more than 6 sources, behind what is wrong with each of them.
func TestManySources(t *testing.T) {
	tells(t, "select x5.c from "+sources(6), "c:5.2 from t t t t t t")
	for _, text := range []string{"select 1 from " + sources(7), "select z from " + sources(7) + " where sum(z)", "select 1 from " + sources(500), "select * from " + sources(6) + " join u on z"} {
		fails(t, text, api.ErrMany)
	}
	fails(t, "select 1 from "+sources(7)+", x", api.ErrNone)
	fails(t, "select 1 from "+sources(8)+", t as x7", api.ErrTwice)
	fails(t, "select 1 from x, "+sources(7), api.ErrNone)
	fails(t, "select 1 from "+sources(6)+", x", api.ErrNone)
	fails(t, "select 1 from "+sources(6)+", t as x0", api.ErrTwice)
}

// (2) Where is all conditions, put together from left to right; one of a join sees the sources up to its own.
func TestConditions(t *testing.T) {
	tells(t, "select 1 from t where a", ":1 from t where 0.0")
	tells(t, "select 1 from t join u on d", ":1 from t u where 1.1")
	tells(t, "select 1 from t join u on d where a or c", ":1 from t u where (1.1 and (0.0 or 0.2))")
	tells(t, "select 1 from t join u on t.b = u.b and d join v on e where a and c", ":1 from t u v where ((((0.1 = 1.0) and 1.1) and 2.0) and (0.0 and 0.2))")
	tells(t, "select 1 from t, u join v on d > e, v as y join v as z on z.e", ":1 from t u v v v where ((1.1 > 2.0) and 4.0)")
	tells(t, "select 1 from t join u on a = d, t as x", ":1 from t u t where (0.0 = 1.1)")
	tells(t, "select 1 where 2", ":1 where 2")
	fails(t, "select 1 from t join u on x.a = 1, t as x", api.ErrNone)
	fails(t, "select 1 from t join u on e, v", api.ErrColumn)
	fails(t, "select 1 from t join u on a = d, t as x where a = 1", api.ErrAmbig)
	fails(t, "select 1 from t join u on b", api.ErrAmbig)
	fails(t, "select 1 from t join u on z join v on x.a", api.ErrColumn)
	fails(t, "select 1 from t join u on f(1) join v on z where x.a", api.ErrCall)
	fails(t, "select 1 from t join u on 1 join v on z where x.a", api.ErrColumn)
}

// (3), (4) A query is grouped, if there is a Group, or a total in what it tells, or is sorted by.
func TestIsGrouped(t *testing.T) {
	tells(t, "select 1 from t group by a, b + 1, 'x'", ":1 from t grouped by 0.0, (0.1 + 1), \"x\"")
	tells(t, "select count(*) from t", ":total0 from t grouped <count >")
	tells(t, "select 1, 2 + length(- sum(a)) from t", ":1, :(2 + length((- total0))) from t grouped <sum 0.0>")
	tells(t, "select 1 from t order by 2, not 1 in (3, max(a)) desc", ":1 from t grouped <max 0.0> order 2, (not in0(1, 3, total0)) desc")
	tells(t, "select length(a), 1 from t order by abs(b)", ":length(0.0), :1 from t order abs(0.1)")
	tells(t, "select 1 group by 2", ":1 grouped by 2")
	tells(t, "select count(*)", ":total0 grouped <count >")
	fails(t, "select a from t order by count(*)", api.ErrPlain)
	fails(t, "select a from t order by a, 1 + count(*)", api.ErrPlain)
	fails(t, "select a, count(z) from t", api.ErrPlain)
	fails(t, "select count(z), a from t", api.ErrColumn)
	fails(t, "select a, f(count(*)) from t", api.ErrPlain)
	fails(t, "select 1 from t group by z", api.ErrColumn)
	fails(t, "select 1 as x from t group by x", api.ErrColumn)
	fails(t, "select 1 from t, u group by a, b", api.ErrAmbig)
}

// In a grouped query what is grouped by is a key, from the outside on; no column may be left.
func TestKeys(t *testing.T) {
	tells(t, "select a, b from t group by b, a", "a:key1, b:key0 from t grouped by 0.1, 0.0")
	tells(t, "select a, t.a, 1 + a from t group by t.a, a", "a:key0, a:key0, :(1 + key0) from t grouped by 0.0, 0.0")
	tells(t, "select a + 1, a, (a + 1) * 2, a + 1 + 1, 1 + a from t group by a + 1, a", ":key0, a:key1, :(key0 * 2), :(key0 + 1), :(1 + key1) from t grouped by (0.0 + 1), 0.0")
	tells(t, "select a + 1, (a + 1) * 2 from t group by a, a + 1", ":key1, :(key1 * 2) from t grouped by 0.0, (0.0 + 1)")
	tells(t, "select a + b, a + c, b in (a + b, 3), cast(b as int), length(b), b is null, not b from t group by b, a + b, a + c", ":key1, :key2, :in0(key0, key1, 3), :cast int(key0), :length(key0), :is1(key0), :(not key0) from t grouped by 0.1, (0.0 + 0.1), (0.0 + 0.2)")
	tells(t, "select 1, 1 + 2, '1', null, 1 is null from t group by 1, null", ":key0, :(key0 + 2), :\"1\", :key1, :is1(key0) from t grouped by 1, null")
	tells(t, "select x.a, y.a from t as x, t as y group by y.a, x.a", "a:key1, a:key0 from t t grouped by 1.0, 0.0")
	tells(t, "select d, * from u group by d, b", "d:key0, b:key1, d:key0 from u grouped by 0.1, 0.0")
	tells(t, "select sum(a), sum(b + 1), a, count(*) + sum(a) from t group by a, b + 1", ":total0, :total1, a:key0, :(total2 + total0) from t grouped by 0.0, (0.1 + 1) <sum 0.0> <sum (0.1 + 1)> <count >")
	tells(t, "select 1 from t group by a having a > 1 and count(b) < 2 order by a desc, a + sum(c)", ":1 from t grouped by 0.0 <count 0.1> <sum 0.2> having ((key0 > 1) and (total0 < 2)) order key0 desc, (key0 + total1)")
	is(t, "select ? + 1 from t group by a, ?", "select binds=2 query={:(?0 + 1) from t grouped by 0.0, ?1}")
	for _, text := range []string{
		"select a from t group by b", "select a + 1 from t group by 1", "select a + 1 from t group by a + 2", "select 1 + a from t group by a + 1", "select a + ? from t group by a + ?", "select -a from t group by not a", "select a is null from t group by a is not null", "select a in (1, 2) from t group by a in (2, 1)", "select a in (1) from t group by a not in (1)", "select cast(a as int) from t group by cast(a as text)", "select lower(a) from t group by upper(a)", "select a || 'x' from t group by a || x'78'", "select a in (1) from t group by a in (1, 1)",
		"select x.a from t as x, t as y group by y.a", "select *, count(*) from t group by a", "select t.* from t, u group by a, t.b", "select count(*) + a from t", "select a, count(*) from t", "select *, 1 from t group by a, c", "select count(*), length(a) from t group by length(b)", "select b + sum(a) from t group by a",
		"select a from t group by a having b", "select a from t group by a having sum(a) > b", "select a from t group by a order by b", "select 1 from t order by count(*), a", "select a from t group by a order by a, sum(a), 1 + b",
	} {
		fails(t, text, api.ErrPlain)
	}
}

// An expression is resolved ahead of being looked at for what is grouped by.
func TestResolvedAheadOfKeys(t *testing.T) {
	fails(t, "select b + z from t group by a", api.ErrColumn)
	fails(t, "select f(b) from t group by a", api.ErrCall)
	fails(t, "select b + sum(count(*)) from t group by a", api.ErrTotal)
	fails(t, "select b, z from t group by a", api.ErrPlain)
	fails(t, "select z, b from t group by a", api.ErrColumn)
	fails(t, "select *, x.* from t group by a", api.ErrPlain)
	fails(t, "select x.*, * from t group by a", api.ErrNone)
}

// (5) A star is each column of its source, or of all; names are an As, or the name of a name or a column.
func TestItems(t *testing.T) {
	tells(t, "select * from t", "a:0.0, b:0.1, c:0.2 from t")
	tells(t, "select * from u, t as x, v", "b:0.0, d:0.1, a:1.0, b:1.1, c:1.2, e:2.0 from u t v")
	tells(t, "select x.*, v.*, 1, *, x.d from v, u as x", "b:1.0, d:1.1, e:0.0, :1, e:0.0, b:1.0, d:1.1, d:1.1 from v u")
	tells(t, "select a, t.b, a as x, t.b as y, 1 as z, 1, a + 1, (c), 'a', length(a) as length from t as t", "a:0.0, b:0.1, x:0.0, y:0.1, z:1, :1, :(0.0 + 1), c:0.2, :\"a\", length:length(0.0) from t")
	tells(t, "select a as x, b as x, c as a from t", "x:0.0, x:0.1, a:0.2 from t")
	for _, text := range []string{"select *", "select 1, *", "select t.*", "select x.* from t", "select t.* from t as x", "select *, x.* from t, u", "select x.*, z from t"} {
		fails(t, text, api.ErrNone)
	}
	fails(t, "select z, x.* from t", api.ErrColumn)
	fails(t, "select z, *", api.ErrColumn)
}

// (5) As many items as there are columns, often.
func TestManyItems(t *testing.T) {
	text := "select *" + strings.Repeat(", *", 600) + " from " + sources(6)
	got, err := Resolve(base(), said(text))
	if err != api.OK || len(got.Query[0].Items) != 601*18 || len(got.Query[0].Names) != 601*18 {
		t.Fatalf("error %d", err)
	}
	for i, e := range got.Query[0].Items {
		if e.Kind != api.EThis || e.A != i%18/3 || e.N != int64(i%3) || got.Query[0].Names[i] != []string{"a", "b", "c"}[i%3] {
			t.Fatalf("%d: %+v", i, e)
		}
	}
}

// (6) Having is resolved behind the items.
func TestHaving(t *testing.T) {
	tells(t, "select sum(b) from t group by a having max(c) > sum(b) and a", ":total0 from t grouped by 0.0 <sum 0.1> <max 0.2> having ((total1 > total0) and key0)")
	tells(t, "select 1 as x from t group by a having 2", "x:1 from t grouped by 0.0 having 2")
	fails(t, "select 1 as x from t group by a having x", api.ErrColumn)
	fails(t, "select 1 from t group by a having f(a)", api.ErrCall)
	fails(t, "select 1 from t group by a having sum(sum(a))", api.ErrTotal)
}

// (7) What is sorted by is what an item is called, or it is resolved.
func TestOrder(t *testing.T) {
	tells(t, "select a from t order by b, a desc, c + 1 asc, 2", "a:0.0 from t order 0.1, 0.0 desc, (0.2 + 1), 2")
	tells(t, "select a + 1 as z, c from t order by z desc, c, z", "z:(0.0 + 1), c:0.2 from t order (0.0 + 1) desc, 0.2, (0.0 + 1)")
	tells(t, "select a as b from t order by b, t.b, b + 0", "b:0.0 from t order 0.0, 0.1, (0.1 + 0)")
	tells(t, "select a as x, b as x, c as y from t order by y, x", "x:0.0, x:0.1, y:0.2 from t order 0.2, 0.0")
	tells(t, "select *, 1 as x, t.*, 2 as y from t order by y, x, a", "a:0.0, b:0.1, c:0.2, x:1, a:0.0, b:0.1, c:0.2, y:2 from t order 2, 1, 0.0")
	tells(t, "select x.a, y.a as a from t as x, t as y order by a", "a:0.0, a:1.0 from t t order 1.0")
	tells(t, "select a + 1 as x, count(*) as n, a + 1 from t group by a order by n desc, x", "x:(key0 + 1), n:total0, :(key0 + 1) from t grouped by 0.0 <count > order total0 desc, (key0 + 1)")
	tells(t, "select 1 as x order by x", "x:1 order 1")
	fails(t, "select a as x from t order by x + 1", api.ErrColumn)
	fails(t, "select a as x from t order by -x", api.ErrColumn)
	fails(t, "select a as x from t order by t.x", api.ErrColumn)
	fails(t, "select a as x from t order by x.x", api.ErrNone)
	fails(t, "select x.a from t as x, t as y order by a", api.ErrAmbig)
	fails(t, "select a from t order by b, z, x.a", api.ErrColumn)
	fails(t, "select 1 from t order by sum(sum(a))", api.ErrTotal)
	fails(t, "select x.a from t as x, t as y order by x", api.ErrColumn)
}

// (7) With Distinct what is sorted by is one of the items.
func TestOrderOfDistinct(t *testing.T) {
	tells(t, "select distinct a from t", "distinct a:0.0 from t")
	tells(t, "select distinct a, b + 1, c as x from t order by t.a, b + 1 desc, x, c", "distinct a:0.0, :(0.1 + 1), x:0.2 from t order 0.0, (0.1 + 1) desc, 0.2, 0.2")
	tells(t, "select distinct * from t order by c", "distinct a:0.0, b:0.1, c:0.2 from t order 0.2")
	tells(t, "select distinct a + 1, sum(b), max(c) from t group by a + 1 order by sum(t.b), a + 1", "distinct :key0, :total0, :total1 from t grouped by (0.0 + 1) <sum 0.1> <max 0.2> order total0, key0")
	tells(t, "select distinct a, 1 from t group by t.a, 1 order by 1, a", "distinct a:key0, :key1 from t grouped by 0.0, 1 order key1, key0")
	tells(t, "select a from t order by b", "a:0.0 from t order 0.1")
	for _, text := range []string{
		"select distinct a from t order by b", "select distinct a + 1 from t order by a", "select distinct a from t order by a + 1", "select distinct a from t order by 1", "select distinct a, b from t order by a, b, c", "select distinct x.a from t as x, t as y order by y.a", "select distinct sum(a) from t order by sum(b)", "select distinct a from t group by a, b order by b", "select distinct a + 1 from t order by 1 + a", "select distinct ? from t order by ?", "select distinct a from t order by b, z", "select distinct count(*) from t order by count(a)", "select distinct sum(a) from t order by sum(distinct a)",
		"select distinct 1 from t order by '1'", "select distinct a is null from t order by a is not null",
	} {
		fails(t, text, api.ErrPlain)
	}
	fails(t, "select distinct a from t order by z, b", api.ErrColumn)
	fails(t, "select distinct a from t order by a + z", api.ErrColumn)
}

// (8) Limit and Offset see no sources, and no totals.
func TestLimit(t *testing.T) {
	is(t, "select a from t limit 1 + ? offset - ?", "select binds=2 query={a:0.0 from t limit (1 + ?0) offset (- ?1)}")
	tells(t, "select a, count(*) from t group by a, 1 limit 1 offset 1", "a:key0, :total0 from t grouped by 0.0, 1 <count > limit 1 offset 1")
	tells(t, "select 1 limit length('it')", ":1 limit length(\"it\")")
	for _, ahead := range []string{"limit ", "limit 1 offset ", "limit 1 offset 1 + "} {
		fails(t, "select a from t "+ahead+"a", api.ErrColumn)
		fails(t, "select a as x from t "+ahead+"x", api.ErrColumn)
		fails(t, "select a from t "+ahead+"t.a", api.ErrNone)
		fails(t, "select a from t "+ahead+"f(1)", api.ErrCall)
		fails(t, "select a from t "+ahead+"count(*)", api.ErrTotal)
	}
	fails(t, "select a from t limit a offset t.a", api.ErrColumn)
	fails(t, "select a from t limit t.a offset a", api.ErrNone)
}

// part is a part of a query, as it is said; its errors, of which each one is met just there.
type part struct {
	right  string
	errors map[string]api.Errno
}

// queryParts is the parts of a query in the order in which they are resolved, and behind each what it has to be behind where it is said.
func queryParts() []part {
	return []part{
		{"t", map[string]api.Errno{"x": api.ErrNone, "t, t": api.ErrTwice, sources(7) + ", t": api.ErrMany}},
		{"join u on d", map[string]api.Errno{"join u on z": api.ErrColumn, "join u on f(1)": api.ErrCall, "join u on x.a": api.ErrNone, "join u on b": api.ErrAmbig, "join u on count(*)": api.ErrTotal}},
		{"where a", map[string]api.Errno{"where z": api.ErrColumn, "where f(1)": api.ErrCall, "where x.a": api.ErrNone, "where b": api.ErrAmbig, "where sum(a)": api.ErrTotal}},
		{"group by a", map[string]api.Errno{"group by z": api.ErrColumn, "group by f(1)": api.ErrCall, "group by x.a": api.ErrNone, "group by b": api.ErrAmbig, "group by a, sum(a)": api.ErrTotal}},
		{"select distinct a, 1", map[string]api.Errno{"select distinct a, z": api.ErrColumn, "select distinct f(1)": api.ErrCall, "select distinct x.*": api.ErrNone, "select distinct b": api.ErrAmbig, "select distinct sum(sum(1))": api.ErrTotal, "select distinct d": api.ErrPlain}},
		{"having a", map[string]api.Errno{"having z": api.ErrColumn, "having f(1)": api.ErrCall, "having x.a": api.ErrNone, "having b": api.ErrAmbig, "having sum(sum(1))": api.ErrTotal, "having d": api.ErrPlain}},
		{"order by a, 1", map[string]api.Errno{"order by a, z": api.ErrColumn, "order by f(1)": api.ErrCall, "order by x.a": api.ErrNone, "order by b": api.ErrAmbig, "order by sum(sum(1))": api.ErrTotal, "order by 2": api.ErrPlain}},
		{"limit 1", map[string]api.Errno{"limit z": api.ErrColumn, "limit f(1)": api.ErrCall, "limit t.a": api.ErrNone, "limit sum(1)": api.ErrTotal}},
		{"offset 1", map[string]api.Errno{"offset z": api.ErrColumn, "offset f(1)": api.ErrCall, "offset t.a": api.ErrNone, "offset sum(1)": api.ErrTotal}},
	}
}

// put is a query of its parts.
func put(p []string) string {
	return p[4] + " from " + p[0] + " " + p[1] + " " + p[2] + " " + p[3] + " " + p[5] + " " + p[6] + " " + p[7] + " " + p[8]
}

// Parts are resolved in the order that is told: of errors of two of them that of the one that comes first counts.
func TestOrderOfParts(t *testing.T) {
	parts := queryParts()
	var right []string
	for _, p := range parts {
		right = append(right, p.right)
	}
	tells(t, put(right), "distinct a:key0, :1 from t u where (1.1 and 0.0) grouped by 0.0 having key0 order key0, 1 limit 1 offset 1")
	for i, p := range parts {
		for wrong, err := range p.errors {
			one := slices.Clone(right)
			one[i] = wrong
			fails(t, put(one), err)
			for k := range parts[i+1:] {
				for other := range parts[i+1+k].errors {
					both := slices.Clone(one)
					both[i+1+k] = other
					fails(t, put(both), err)
					fails(t, "insert into v "+put(both), err)
				}
			}
		}
	}
}
