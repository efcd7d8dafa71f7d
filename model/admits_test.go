package model

import (
	"slices"
	"strings"
	"testing"

	"cardindex/api"
)

// ints is rows of one number each.
func ints(all ...int64) [][]api.Value {
	var told [][]api.Value
	for _, n := range all {
		told = append(told, list(num(n)))
	}
	return told
}

// P14.3: the chapter's examples.
func TestExamplesOfAdmits(t *testing.T) {
	b := made("create table t (a, b)", "insert into t values (1, 10), (2, null), (3, 10)")
	b.admits(t, "select a from t limit 1", true, ints(3)...)
	b.admits(t, "select a from t limit 1", false, ints(4)...)
}

// P14.3: without an order all orders of what is told may be; nothing else.
func TestAdmitsAnyOrder(t *testing.T) {
	b := made("create table t (a)", "insert into t values (1), (2), (2)")
	for _, c := range []struct {
		got  [][]api.Value
		want bool
	}{
		{ints(1, 2, 2), true}, {ints(2, 1, 2), true}, {ints(2, 2, 1), true}, {ints(1, 1, 2), false}, {ints(2, 2, 2), false}, {ints(1, 2), false}, {ints(1, 2, 2, 2), false}, {ints(1, 2, 2, 3), false}, {ints(1, 2, 3), false}, {nil, false}, {ints(), false},
		{[][]api.Value{list(num(1)), list(num(2)), nil}, false}, {[][]api.Value{list(num(1)), list(num(2)), list(num(2), num(2))}, false}, {[][]api.Value{list(num(1)), list(num(2)), list(text("2"))}, false}, {[][]api.Value{list(num(1)), list(num(2)), list(null)}, false},
	} {
		b.admits(t, "select a from t", c.want, c.got...)
		b.admits(t, "select a from t order by 1", c.want, c.got...)
		b.admits(t, "select a from t order by a * 0", c.want, c.got...)
		b.admits(t, "select a from t limit 3", c.want, c.got...)
		b.admits(t, "select a from t limit 7 offset -1", c.want, c.got...)
	}
}

// P14.3: with a Limit and Offset as many as are told, whichever; none taken twice.
func TestAdmitsAPart(t *testing.T) {
	b := made("create table t (a)", "insert into t values (1), (2), (2), (3)")
	for _, text := range []string{"select a from t limit 2", "select a from t limit 2 offset 1", "select a from t limit 9 offset 2", "select a from t limit -1 offset 2"} {
		for _, got := range [][][]api.Value{ints(1, 2), ints(1, 3), ints(2, 2), ints(3, 1), ints(3, 2)} {
			b.admits(t, text, true, got...)
		}
		for _, got := range [][][]api.Value{ints(1, 1), ints(3, 3), ints(1), ints(1, 2, 2), ints(1, 2, 2, 3), ints(1, 4), nil} {
			b.admits(t, text, false, got...)
		}
	}
	for _, text := range []string{"select a from t limit 0", "select a from t limit 1 offset 4", "select a from t limit 9 offset 9223372036854775807"} {
		b.admits(t, text, true)
		b.admits(t, text, false, ints(1)...)
	}
}

// P14.3: each, at its place, has the sort of the one that stands there.
func TestAdmitsSorted(t *testing.T) {
	b := made("create table t (a, b)", "insert into t values (1, 1), (2, 1), (3, 2), (4, 2), (5, 3)")
	for _, c := range []struct {
		text string
		got  [][]api.Value
		want bool
	}{
		{"select a from t order by b", ints(1, 2, 3, 4, 5), true}, {"select a from t order by b", ints(2, 1, 4, 3, 5), true}, {"select a from t order by b", ints(1, 3, 2, 4, 5), false}, {"select a from t order by b", ints(1, 2, 3, 5, 4), false}, {"select a from t order by b", ints(1, 1, 3, 4, 5), false},
		{"select a from t order by b desc", ints(5, 4, 3, 1, 2), true}, {"select a from t order by b desc", ints(1, 2, 3, 4, 5), false}, {"select a from t order by a", ints(1, 2, 3, 4, 5), true}, {"select a from t order by a", ints(2, 1, 3, 4, 5), false}, {"select a from t order by b, a", ints(2, 1, 3, 4, 5), false},
		{"select a from t order by b limit 1", ints(2), true}, {"select a from t order by b limit 1", ints(3), false}, {"select a from t order by b limit 1 offset 1", ints(1), true}, {"select a from t order by b limit 1 offset 1", ints(3), false}, {"select a from t order by b limit 1 offset 2", ints(4), true}, {"select a from t order by b limit 1 offset 2", ints(2), false},
		{"select a from t order by b limit 2 offset 1", ints(1, 3), true}, {"select a from t order by b limit 2 offset 1", ints(2, 4), true}, {"select a from t order by b limit 2 offset 1", ints(1, 2), false}, {"select a from t order by b limit 2 offset 1", ints(3, 1), false}, {"select a from t order by b limit 2 offset 1", ints(3, 4), false},
		{"select a from t order by b limit 3 offset 1", ints(1, 4, 3), true}, {"select a from t order by b limit 3 offset 1", ints(1, 4, 4), false}, {"select a from t order by b limit 9 offset 3", ints(3, 5), true}, {"select a from t order by b limit 9 offset 3", ints(5, 3), false}, {"select a from t order by b limit 9 offset 4", ints(5), true}, {"select a from t order by b limit 9 offset 4", ints(4), false},
	} {
		b.admits(t, c.text, c.want, c.got...)
	}
}

// P14.3: the same Items may be told with more than one sort: each of got is one of those that have the sort of its place.
func TestAdmitsItemsOfTwoSorts(t *testing.T) {
	b := made("create table t (a, b)", "insert into t values (1, 1), (1, 2), (2, 1), (2, 2), (2, 2)")
	for _, c := range []struct {
		got  [][]api.Value
		want bool
	}{
		{ints(1, 2, 1, 2, 2), true}, {ints(2, 1, 2, 1, 2), true}, {ints(2, 1, 2, 2, 1), true}, {ints(1, 1, 2, 2, 2), false}, {ints(2, 2, 1, 1, 2), false},
	} {
		b.admits(t, "select a from t order by b", c.want, c.got...)
	}
	// What stands in a list's end does not stand in another one's begin.
	q := b.query("select a from t order by b")
	if Admits(b.s, b.d, q, nil, [][]api.Value{list(num(1)), list(num(2)), list(num(1)), list(num(2)), list(num(2), num(2))}) || Admits(b.s, b.d, q, nil, [][]api.Value{nil, nil, nil, nil, nil}) {
		t.Error("lists of another length")
	}
}

// P14.3: with Distinct each is told once; of a grouped query groups are.
func TestAdmitsDistinctAndGrouped(t *testing.T) {
	b := made("create table t (a, b)", "insert into t values (1, 1), (2, 1), (3, 2), (4, null)")
	one := func(v ...api.Value) [][]api.Value {
		var told [][]api.Value
		for _, v := range v {
			told = append(told, list(v))
		}
		return told
	}
	b.admits(t, "select distinct b from t", true, one(num(2), null, num(1))...)
	b.admits(t, "select distinct b from t", false, one(num(2), null, num(1), num(1))...)
	b.admits(t, "select distinct b from t", false, one(num(2), num(1), num(1))...)
	b.admits(t, "select distinct b from t order by b", true, one(null, num(1), num(2))...)
	b.admits(t, "select distinct b from t order by b", false, one(num(1), null, num(2))...)
	b.admits(t, "select distinct b from t limit 2", true, one(null, num(2))...)
	b.admits(t, "select distinct b from t limit 2", false, one(num(1), num(1))...)
	b.admits(t, "select count(*) from t group by b", true, one(num(1), num(1), num(2))...)
	b.admits(t, "select count(*) from t group by b", false, one(num(1), num(2), num(2))...)
	b.admits(t, "select b, count(*) from t group by b order by count(*) desc", true, list(num(1), num(2)), list(null, num(1)), list(num(2), num(1)))
	b.admits(t, "select b, count(*) from t group by b order by count(*) desc", false, list(null, num(1)), list(num(1), num(2)), list(num(2), num(1)))
	b.admits(t, "select b from t group by b having count(*) < 2 limit 1", true, one(null)...)
	b.admits(t, "select b from t group by b having count(*) < 2 limit 1", false, one(num(1))...)
	b.admits(t, "select count(*) from t", true, one(num(4))...)
	b.admits(t, "select count(*) from t", false)
}

// P14.3: at an error ahead of the rows got is nothing.
func TestAdmitsAheadOfRows(t *testing.T) {
	b := small()
	for _, text := range []string{"select 1 from t limit 'x'", "select 1 from t limit 0 offset null", "select 1 from t limit 1 + 9223372036854775807", "select count(*) from t limit null", "select a + 9223372036854775807 from t limit 1 offset 'x'", "select sum(9223372036854775807) from t limit 'x'"} {
		b.admits(t, text, true)
		b.admits(t, text, false, ints(1)...)
		b.admits(t, text, false, nil)
	}
	for _, q := range []api.Query{b.query("select 1 from t"), b.query("select count(*) from t"), b.query("select a + 9223372036854775807 from t"), b.query("select sum(9223372036854775807) from t")} {
		asked := func(what string, d api.Data, q api.Query, binds []api.Value) {
			if !Admits(b.s, d, q, binds, nil) || !Admits(b.s, d, q, binds, [][]api.Value{}) || Admits(b.s, d, q, binds, ints(1)) || Admits(b.s, d, q, binds, [][]api.Value{nil}) || Admits(b.s, d, q, binds, ints(1, 1, 1, 1)) {
				t.Error(what)
			}
		}
		asked("wrong rows", api.Data{Rows: b.d.Rows[1:]}, q, nil)
		asked("a wrong bind", b.d, q, list(num(1), wrongValues()[0]))
		none, many := q, q
		none.From = append(slices.Clone(q.From), api.Table{Name: "none"})
		asked("no table", b.d, none, nil)
		many.From = slices.Repeat(q.From, 9)
		asked("too many", b.d, many, nil)
	}
}

// P14.3: at another error of a grouped query whatever may be.
func TestAdmitsAtErrorsOfGroups(t *testing.T) {
	b := small()
	for _, text := range []string{"select sum(9223372036854775807) from t", "select a + 9223372036854775807 from t group by a", "select a from t group by a order by a + 9223372036854775807", "select a from t group by a having a + 9223372036854775807", "select count(*) from t group by a + 9223372036854775807", "select count(*) from t where a + 9223372036854775807", "select max(a + 9223372036854775807) from t", "select distinct sum(9223372036854775807) from t limit 1"} {
		for _, got := range [][][]api.Value{nil, ints(1), ints(7, 8, 9, 10, 11, 12), {nil}, {list(null, wrongValues()[0])}} {
			b.admits(t, text, true, got...)
		}
	}
}

// P14.3: at another error each of got is the Items of a candidate of its own, which has no error of Where and Items, and of which Where is true.
func TestAdmitsAtErrorsOfRows(t *testing.T) {
	b := made("create table t (a, b)", "insert into t values (1, 0), (1, 0), (2, 0), (3, 0), (9223372036854775807, 9223372036854775807)")
	for _, c := range []struct {
		text string
		got  [][]api.Value
		want bool
	}{
		{"select a + 1 from t", nil, true}, {"select a + 1 from t", ints(2), true}, {"select a + 1 from t", ints(4, 2, 3, 2), true}, {"select a + 1 from t", ints(2, 2), true}, {"select a + 1 from t", ints(2, 2, 2), false}, {"select a + 1 from t", ints(5), false}, {"select a + 1 from t", ints(3, 3), false}, {"select a + 1 from t", ints(2, 3, 4, 0), false},
		{"select a from t where a + 1 > 2", nil, true}, {"select a from t where a + 1 > 2", ints(3, 2), true}, {"select a from t where a + 1 > 2", ints(1), false}, {"select a from t where a + 1 > 2", ints(9223372036854775807), false},
		{"select a from t order by a + 1", nil, true}, {"select a from t order by a + 1", ints(9223372036854775807, 3, 1), true}, {"select a from t order by a + 1", ints(9223372036854775807, 9223372036854775807), false}, {"select a from t order by a + 1", ints(9223372036854775807, 3, 1, 2, 1), true},
		{"select a + 1 from t where a > 2", ints(4), true}, {"select a + 1 from t where a > 2", ints(3), false}, {"select a + 1 from t limit 1", ints(2, 2, 3, 4), true}, {"select a + 1 from t limit 1 offset 7", ints(4), true}, {"select a + 1 from t limit 0", ints(4), true}, {"select distinct a + 1 from t", ints(2, 2), true}, {"select distinct a + 1 from t", ints(2, 2, 2), false},
		{"select a + 1 from t order by a desc", ints(2, 4, 3), true}, {"select 7 + b from t", ints(7, 7, 7, 7), true}, {"select 7 + b from t", ints(7, 7, 7, 7, 7), false}, {"select 7 from t order by 1 + b", ints(7, 7, 7, 7, 7), true}, {"select 7 from t order by 1 + b", ints(7, 7, 7, 7, 7, 7), false},
		{"select a + 1 from t", [][]api.Value{nil}, false}, {"select a + 1 from t", [][]api.Value{list(num(2), num(2))}, false}, {"select a + 1 from t", [][]api.Value{list(text("2"))}, false}, {"select a + 1, 5 from t", [][]api.Value{list(num(2), num(5)), list(num(2), num(5))}, true}, {"select a + 1, 5 from t", ints(2), false},
		{"select x.a + y.b from t as x, t as y where x.a < 3", ints(1, 1, 1, 1, 1, 1, 1, 1, 2, 2, 2, 2), true}, {"select x.a + y.b from t as x, t as y where x.a < 3", ints(1, 1, 1, 1, 1, 1, 1, 1, 1), false},
	} {
		if got := b.ask(b.query(c.text)); got != "error 20" {
			t.Fatalf("%s: %s", c.text, got)
		}
		b.admits(t, c.text, c.want, c.got...)
	}
}

// P14.3: all of Where are asked there, too: an error of any of them, as one that is false, takes the candidate away.
func TestAdmitsAtErrorsOfTwoWheres(t *testing.T) {
	b := made("create table t (a, b)", "insert into t values (1, 0), (2, 0), (3, 1)")
	q := b.query("select a from t")
	more := func(n int64) api.Expr { return op(">", this(0, 0), lit(n)) }
	safe := op("=", overIf(this(0, 1)), lit(0))
	for _, c := range []struct {
		where []api.Expr
		got   [][]api.Value
		want  bool
	}{
		{[]api.Expr{more(1), safe}, ints(2), true}, {[]api.Expr{safe, more(1)}, ints(2), true}, {[]api.Expr{safe, more(1)}, ints(1), false}, {[]api.Expr{safe, more(1)}, ints(3), false}, {[]api.Expr{more(1), safe}, ints(1), false}, {[]api.Expr{more(1), safe}, ints(3), false}, {[]api.Expr{safe, lit(1)}, ints(2, 1), true}, {[]api.Expr{safe, lit(0)}, ints(1), false}, {[]api.Expr{lit(0), safe}, nil, true},
	} {
		q.Where = c.where
		if b.ask(q) != "error 20" || Admits(b.s, b.d, q, nil, c.got) != c.want {
			t.Errorf("%s: %s: %v", b.ask(q), showList(c.got), !c.want)
		}
	}
}

// P14.3: what is told is a value, not one that is none; NULL is told as NULL.
func TestAdmitsValues(t *testing.T) {
	b := made("create table t (a)", "insert into t values (null), ('')")
	b.admits(t, "select a from t", true, list(text("")), list(null))
	for _, wrong := range []api.Value{{N: 1}, {S: "a"}, {Kind: 4}} {
		b.admits(t, "select a from t", false, list(text("")), list(wrong))
		b.admits(t, "select a from t where a is null", false, list(wrong))
	}
	b.admits(t, "select a from t", false, list(api.Value{Kind: api.VText, N: 1}), list(null))
	b.admits(t, "select a from t", false, list(blob("")), list(null))
}

// P14.3: a query without Items tells so many lists of nothing.
func TestAdmitsNoItems(t *testing.T) {
	b := small()
	q := b.query("select a from t order by b limit 2")
	q.Items = nil
	for n := range 4 {
		if got := slices.Repeat([][]api.Value{nil}, n); Admits(b.s, b.d, q, nil, got) != (n == 2) {
			t.Errorf("%d lists of nothing", n)
		}
	}
	if Admits(b.s, b.d, q, nil, [][]api.Value{nil, list(null)}) {
		t.Error("a list of one")
	}
}

// P14.3: long values, and many of them.
func TestAdmitsMuch(t *testing.T) {
	b := much(20000)
	q := b.query("select a from t0 order by a % 2 limit -1 offset 5000")
	told, _ := Query(b.s, b.d, q, nil)
	if len(told) != 15000 || !Admits(b.s, b.d, q, nil, told) {
		t.Fatalf("%d told", len(told))
	}
	slices.Reverse(told[:5000]) // those behind 5000 left out
	slices.Reverse(told[5000:])
	told[0][0] = num(2)
	if !Admits(b.s, b.d, q, nil, told) {
		t.Error("in another order")
	}
	told[0], told[14999] = told[14999], told[0]
	if Admits(b.s, b.d, q, nil, told) {
		t.Error("of another sort")
	}
	x := made("create table t (a)")
	x.d.Rows[0] = []api.Row{row(1, text(xs(api.MaxValue))), row(2, text(xs(api.MaxValue)[1:]+"y"))}
	x.admits(t, "select a from t", true, list(text(strings.Repeat("x", api.MaxValue-1)+"y")), list(text(xs(api.MaxValue))))
	x.admits(t, "select a from t", false, list(text(xs(api.MaxValue))), list(text(xs(api.MaxValue))))
}
