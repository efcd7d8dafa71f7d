package model

import (
	"slices"
	"strings"
	"testing"

	"cardindex/api"
)

// small is t (a, b), u (b, c) and an empty v (d).
func small() *base {
	return made("create table t (a, b)", "create table u (b, c)", "create table v (d)",
		"insert into t values (1, 10), (2, null), (3, 10), (null, 'x')", "insert into u values (10, 'p'), (null, 'q'), (10, 'r')")
}

// P14.2: the chapter's examples.
func TestExamplesOfQueries(t *testing.T) {
	b := made("create table t (a, b)", "insert into t values (1, 10), (2, null), (3, 10)")
	b.tells(t, "select b, count(*) from t group by b", "10 2; NULL 1")
	b.tells(t, "select b, count(*) from t group by b order by b", "NULL 1; 10 2")
}

// P14.2: candidates: a row of each source, the first source the outermost; of no source there is one.
func TestCandidates(t *testing.T) {
	b := small()
	for _, c := range [][2]string{
		{"select 1 + 1, 'x'", "2 'x'"}, {"select 1 where 0", ""}, {"select 1 where null", ""}, {"select 1 where 1", "1"}, {"select count(*)", "1"}, {"select count(*) where 0", "0"},
		{"select a from t", "1; 2; 3; NULL"}, {"select * from t", "1 10; 2 NULL; 3 10; NULL 'x'"}, {"select d from v", ""},
		{"select a, c from t, u", "1 'p'; 1 'q'; 1 'r'; 2 'p'; 2 'q'; 2 'r'; 3 'p'; 3 'q'; 3 'r'; NULL 'p'; NULL 'q'; NULL 'r'"},
		{"select a, c from u, t where a < 3", "1 'p'; 2 'p'; 1 'q'; 2 'q'; 1 'r'; 2 'r'"},
		{"select a, d from t, v", ""}, {"select a, d from v, t", ""}, {"select count(*), sum(a) from t, v", "0 NULL"},
		{"select x.a, y.a from t as x, t as y where x.a < y.a", "1 2; 1 3; 2 3"}, {"select x.a, y.a, z.a from t as x, t as y, t as z where x.a < y.a and y.a < z.a", "1 2 3"},
		{"select a, c from t join u on t.b = u.b", "1 'p'; 1 'r'; 3 'p'; 3 'r'"}, {"select t.a, u.c from u join t on t.b = u.b where c <> 'p'", "1 'r'; 3 'r'"},
		{"select count(*) from t as p, t as q, t as r, t as x, t as y, t as z", "4096"},
	} {
		b.tells(t, c[0], c[1])
	}
}

// P14.2: rows are those candidates of which Where is known to be true.
func TestWhere(t *testing.T) {
	b := small()
	for _, c := range [][2]string{
		{"select a from t where b = 10", "1; 3"}, {"select a from t where b <> 10", "NULL"}, {"select a from t where b is null", "2"}, {"select a from t where not b = 10", "NULL"}, {"select a from t where b", "1; 3"},
		{"select a from t where a", "1; 2; 3"}, {"select a from t where a - 1", "2; 3"}, {"select b from t where a is null or a > 2", "10; 'x'"}, {"select a from t where ? = b", "1; 3"}, {"select a from t where '1x'", "1; 2; 3; NULL"}, {"select a from t where 'x'", ""},
	} {
		b.tells(t, c[0], c[1], num(10))
	}
}

// P14.2: of a query that is not grouped Items are told of each row.
func TestItems(t *testing.T) {
	b := small()
	b.tells(t, "select a + 1, b, a is null, ? from t", "2 10 0 X'00'; 3 NULL 0 X'00'; 4 10 0 X'00'; NULL 'x' 1 X'00'", blob("\x00"))
	b.tells(t, "select ? from u", "NULL; NULL; NULL")
	b.tells(t, "select ?, ? from u where c = 'p'", "1 NULL", num(1))
	b.tells(t, "select ? from u where c = 'p'", "1", num(1), num(2))
}

// P14.2: rows in the order of their sort, the first expression first; those that are the same stay in order.
func TestOrder(t *testing.T) {
	b := small()
	for _, c := range [][2]string{
		{"select a, b from t order by a", "NULL 'x'; 1 10; 2 NULL; 3 10"}, {"select a, b from t order by a desc", "3 10; 2 NULL; 1 10; NULL 'x'"}, {"select a from t order by b", "2; 1; 3; NULL"}, {"select a from t order by b desc", "NULL; 1; 3; 2"},
		{"select a from t order by b, a desc", "2; 3; 1; NULL"}, {"select a from t order by b desc, a desc", "NULL; 3; 1; 2"}, {"select a from t order by b desc, a", "NULL; 1; 3; 2"},
		{"select a from t order by 1", "1; 2; 3; NULL"}, {"select a from t order by a is null, - a", "3; 2; 1; NULL"}, {"select a, - a as n from t order by n", "NULL NULL; 3 -3; 2 -2; 1 -1"},
		{"select a, c from t, u where a < 3 order by c desc", "1 'r'; 2 'r'; 1 'q'; 2 'q'; 1 'p'; 2 'p'"},
	} {
		b.tells(t, c[0], c[1])
	}
	m := made("create table m (a)", "insert into m values (x'31'), ('1'), (1), (null), ('a'), (-1), ('A'), (x''), ('')")
	m.tells(t, "select a from m order by a", "NULL; -1; 1; ''; '1'; 'A'; 'a'; X''; X'31'")
	m.tells(t, "select a from m order by a desc", "X'31'; X''; 'a'; 'A'; '1'; ''; 1; -1; NULL")
}

// P14.2: sorting is stable, however many rows there are.
func TestManyRowsStayInOrder(t *testing.T) {
	b := made("create table t (a)")
	var want []string
	for i := range 1000 {
		b.d.Rows[0] = append(b.d.Rows[0], row(i+1, num(int64(i))))
	}
	for rest := range int64(7) {
		for i := rest; i < 1000; i += 7 {
			want = append(want, show(num(i)))
		}
	}
	b.tells(t, "select a from t order by a % 7", strings.Join(want, "; "))
}

// P14.2: with Distinct what was told ahead is left out, whatever it is sorted by.
func TestDistinct(t *testing.T) {
	b := small()
	for _, c := range [][2]string{
		{"select distinct b from t", "10; NULL; 'x'"}, {"select distinct b from t order by b desc", "'x'; 10; NULL"}, {"select distinct a, b from t", "1 10; 2 NULL; 3 10; NULL 'x'"}, {"select distinct 1 from t", "1"}, {"select distinct d from v", ""},
		{"select distinct t.b from t, u", "10; NULL; 'x'"}, {"select distinct b from t limit 1 offset 1", "NULL"}, {"select distinct count(*) from t group by b", "2; 1"}, {"select distinct typeof(b), b is null from t", "'integer' 0; 'null' 1; 'text' 0"},
	} {
		b.tells(t, c[0], c[1])
	}
	m := made("create table m (a, b)", "insert into m values ('1', ''), (1, ''), (x'31', ''), ('', '1'), ('', x'31'), ('1', ''), (null, ''), ('', null), (null, ''), ('1', x'')")
	m.tells(t, "select distinct a, b from m", "'1' ''; 1 ''; X'31' ''; '' '1'; '' X'31'; NULL ''; '' NULL; '1' X''")
	q := m.query("select a from m order by b")
	q.Distinct = true // the first one's sort counts
	m.says(t, "sorted by what is not told", q, "'1'; 1; X'31'; NULL; ''")
	q.Items = nil
	m.says(t, "of no items", q, "")
	if told, err := Query(m.s, m.d, q, nil); len(told) != 1 || err != api.OK {
		t.Errorf("of no items: %d told once", len(told))
	}
}

// P14.2: Limit and Offset: below 0 as if there were none.
func TestLimitAndOffset(t *testing.T) {
	b := small()
	all := []string{"1", "2", "3", "NULL"}
	for _, limit := range []string{"", "0", "1", "3", "4", "5", "-1", "-9223372036854775807 - 1", "9223372036854775807", "1 + 1"} {
		for _, offset := range []string{"", "0", "1", "3", "4", "5", "-1", "-9223372036854775807 - 1", "9223372036854775807", "1 + 1"} {
			if limit == "" && offset != "" {
				continue // no statement says that; but see TestListsOfMore
			}
			text, from, most := "select a from t", 0, 4
			if limit != "" {
				text += " limit " + limit
				most = map[string]int{"0": 0, "1": 1, "3": 3, "1 + 1": 2}[limit]
				if strings.HasPrefix(limit, "-") || strings.HasPrefix(limit, "9") || limit == "4" || limit == "5" {
					most = 4
				}
			}
			if offset != "" {
				text += " offset " + offset
				from = map[string]int{"1": 1, "3": 3, "4": 4, "5": 4, "9223372036854775807": 4, "1 + 1": 2}[offset]
			}
			b.tells(t, text, strings.Join(all[from:min(4, from+most)], "; "))
		}
	}
	b.tells(t, "select a from t order by a desc limit ? offset ?", "2; 1", num(2), num(1))
	b.tells(t, "select b, count(*) from t group by b limit 1 offset 1", "NULL 1")
}

// P14.2: groups in the order of their first rows; without Group there is one, be there no rows.
func TestGroups(t *testing.T) {
	b := small()
	for _, c := range [][2]string{
		{"select b, count(*), sum(a), count(a) from t group by b", "10 2 4 2; NULL 1 2 1; 'x' 1 NULL 0"}, {"select count(*), count(a), min(a), max(b), total(a), sum(a), group_concat(a) from t", "4 3 1 'x' 6 6 '1,2,3'"},
		{"select count(*), count(d), min(d), max(d), total(d), sum(d), group_concat(d) from v", "0 0 NULL NULL 0 NULL NULL"}, {"select d, count(*) from v group by d", ""}, {"select 1 from v group by d", ""},
		{"select count(*) from t where b = 10", "2"}, {"select count(*) from t where b = 99", "0"}, {"select b from t where b = 99 group by b", ""}, {"select count(distinct b), count(b), sum(distinct b), sum(b) from t", "2 3 10 20"},
		{"select t.b, count(*), min(c), max(a) from t, u group by t.b", "10 6 'p' 3; NULL 3 'p' 2; 'x' 3 'p' NULL"}, {"select a % 2, b, count(*) from t group by a % 2, b", "1 10 2; 0 NULL 1; NULL 'x' 1"}, {"select count(*) from t group by b, a", "1; 1; 1; 1"},
		{"select b || '!', count(*) + 1 from t group by b || '!'", "'10!' 3; NULL 2; 'x!' 2"}, {"select ?, count(*) from t group by a is null", "NULL 3; NULL 1"}, {"select sum(a + 1) * 2, - sum(a) from t", "18 -6"}, {"select 7 from t group by b", "7; 7; 7"},
		{"select b, sum(a) from t group by b order by sum(a)", "'x' NULL; NULL 2; 10 4"}, {"select b from t group by b order by count(*), b desc", "'x'; NULL; 10"}, {"select a from t where a > 1 group by a order by a desc", "3; 2"},
		{"select count(*) from t order by max(a)", "4"}, {"select 5 from t order by count(*)", "5"},
	} {
		b.tells(t, c[0], c[1])
	}
}

// P14.2: values of Group that differ in kind alone are not the same; nor those of two columns that are the same put together.
func TestGroupsAreApart(t *testing.T) {
	m := made("create table m (a, b)", "insert into m values ('1', ''), (1, ''), (x'31', ''), ('', '1'), ('', x'31'), ('1', ''), (null, ''), ('', null), (null, ''), ('1', x'')")
	m.tells(t, "select a, b, count(*) from m group by a, b", "'1' '' 2; 1 '' 1; X'31' '' 1; '' '1' 1; '' X'31' 1; NULL '' 2; '' NULL 1; '1' X'' 1")
	m.tells(t, "select b, a, count(*) from m group by a, b having count(*) > 1", "'' '1' 2; '' NULL 2")
}

// P14.2: what is grouped by may be more, and longer, than what has a key.
func TestGroupsOfMuch(t *testing.T) {
	b := made("create table t (a, b)")
	b.d.Rows[0] = []api.Row{row(1, text(xs(api.MaxValue)), num(1)), row(2, text(xs(api.MaxValue)), num(2)), row(3, text(xs(api.MaxValue-1)), num(3))}
	q := api.Query{From: b.s.Tables, Grouped: true, Distinct: true, Group: slices.Repeat([]api.Expr{this(0, 0)}, 250), Totals: []api.Total{{Func: "sum", Args: []api.Expr{this(0, 1)}}}, Items: append(slices.Repeat([]api.Expr{key(7)}, 250), sum(0))}
	q.Order = []api.Key{{Expr: sum(0), Desc: true}}
	told, err := Query(b.s, b.d, q, nil)
	if err != api.OK || len(told) != 2 || told[0][250] != num(3) || told[1][250] != num(3) || len(told[0][0].S)+len(told[1][0].S) != 2*api.MaxValue-1 {
		t.Errorf("error %d, %d told", err, len(told))
	}
	if !Admits(b.s, b.d, q, nil, [][]api.Value{told[1], told[0]}) {
		t.Error("not in the other order")
	}
}

// P14.2: of groups Having must be true.
func TestHaving(t *testing.T) {
	b := small()
	for _, c := range [][2]string{
		{"select b from t group by b having count(*) > 1", "10"}, {"select b from t group by b having sum(a)", "10; NULL"}, {"select b from t group by b having b is null", "NULL"}, {"select b from t group by b having null", ""}, {"select b from t group by b having b = 10 or count(a) = 0", "10; 'x'"},
		{"select b from t group by b having ? order by b", "NULL; 10; 'x'"}, {"select b from t group by b having '0x'", ""},
	} {
		b.tells(t, c[0], c[1], num(1))
	}
	q := b.query("select count(*) from t")
	q.Having = []api.Expr{op(">", sum(0), bind(0))}
	b.says(t, "Having of all rows", q, "4", num(3))
	b.says(t, "Having of all rows", q, "", num(4))
	q.From = b.s.Tables[2:]
	b.says(t, "Having of no rows", q, "", num(0))
	b.says(t, "Having of no rows", q, "0", num(-1))
}

// P14.2: what a group tells is computed of its keys and totals, and of binds; of no row.
func TestGroupsHaveNoRow(t *testing.T) {
	b := small()
	q := api.Query{From: b.s.Tables[:1], Grouped: true, Group: []api.Expr{this(0, 1)}, Totals: []api.Total{{Func: "count"}}, Items: []api.Expr{this(0, 0), key(0), key(1), key(-1), sum(0), sum(1), bind(0)}}
	b.says(t, "places", q, "NULL 10 NULL NULL 2 NULL 5; NULL NULL NULL NULL 1 NULL 5; NULL 'x' NULL NULL 1 NULL 5", num(5))
	q.Order = []api.Key{{Expr: key(0), Desc: true}, {Expr: this(0, 0)}}
	q.Having = []api.Expr{op("=", sum(0), bind(0))}
	b.says(t, "places", q, "NULL 'x' NULL NULL 1 NULL 1; NULL NULL NULL NULL 1 NULL 1", num(1))
	q.Having = []api.Expr{this(0, 0)}
	b.says(t, "Having of a row", q, "")
	q.Group, q.Having = nil, nil
	b.says(t, "no Group", q, "NULL NULL NULL NULL 4 NULL NULL")
	q.Totals = nil
	b.says(t, "nothing", q, "NULL NULL NULL NULL NULL NULL NULL")
}

// P14.2: a query that is not grouped has no groups, whatever else it says.
func TestNotGrouped(t *testing.T) {
	b := small()
	q := api.Query{From: b.s.Tables[:1], Group: []api.Expr{over()}, Totals: []api.Total{{Func: "none"}}, Having: []api.Expr{lit(0)}, Items: []api.Expr{this(0, 0), key(0), sum(0)}}
	b.says(t, "Group, Totals, Having", q, "1 NULL NULL; 2 NULL NULL; 3 NULL NULL; NULL NULL NULL")
}

// P14.2: a total without Args counts rows, as count* does.
func TestTotalsWithoutArgs(t *testing.T) {
	b := small()
	q := api.Query{From: b.s.Tables[:1], Grouped: true, Items: []api.Expr{sum(0)}}
	for _, c := range []struct {
		total api.Total
		want  string
	}{
		{api.Total{Func: "count"}, "4"}, {api.Total{Func: "count*"}, "4"}, {api.Total{Func: "sum"}, "4"}, {api.Total{}, "4"}, {api.Total{Func: "count", Args: []api.Expr{this(0, 0)}}, "3"}, {api.Total{Func: "count*", Args: []api.Expr{this(0, 0)}}, "4"},
		{api.Total{Func: "count", Args: []api.Expr{this(0, 1), over(), none()}}, "3"}, {api.Total{Func: "count", Distinct: true, Args: []api.Expr{this(0, 1), this(0, 0)}}, "2"},
		{api.Total{Func: "count", Distinct: true}, "error 2"}, {api.Total{Func: "count*", Distinct: true, Args: []api.Expr{this(0, 0)}}, "error 2"}, {api.Total{Func: "none", Args: []api.Expr{this(0, 0)}}, "error 21"}, {api.Total{Args: []api.Expr{this(0, 0)}}, "error 21"}, {api.Total{Func: "COUNT", Args: []api.Expr{this(0, 0)}}, "error 21"},
	} {
		q.Totals = []api.Total{c.total}
		b.says(t, c.total.Func, q, c.want)
	}
}

// P14.2: of lists of one at most more may be handed in: all of Where and Having are asked, the last Limit and Offset count.
func TestListsOfMore(t *testing.T) {
	b := small()
	q := b.query("select a from t")
	where := func(conditions ...api.Expr) { q.Where = conditions }
	where(op(">", this(0, 0), lit(1)), op("<", this(0, 0), lit(3)))
	b.says(t, "two Wheres", q, "2")
	where(lit(1), op("<", this(0, 0), lit(3)), lit(1))
	b.says(t, "three Wheres", q, "1; 2")
	where(lit(1), lit(1), lit(0))
	b.says(t, "three Wheres", q, "")
	where(lit(0), over())
	b.says(t, "a Where behind one that is false", q, "error 20")
	where(over(), none())
	b.says(t, "two Wheres that are wrong", q, "error 20")
	where()
	q.Limit, q.Offset = []api.Expr{over(), lit(0), lit(2)}, []api.Expr{none(), lit(7), lit(1)}
	b.says(t, "three Limits", q, "2; 3")
	q.Limit = nil
	b.says(t, "no Limit, but an Offset", q, "2; 3; NULL")
	q = b.query("select b from t group by b")
	q.Having = []api.Expr{lit(1), {Kind: api.EIs, N: 0, Kids: []api.Expr{key(0)}}, op("<>", key(0), lit(10))}
	b.says(t, "three Havings", q, "'x'")
	q.Having = []api.Expr{lit(0), strange()}
	b.says(t, "a Having behind one that is false", q, "error 21")
}

// P14.2: ErrData, ErrBind, ErrNone, ErrRows, Limit's error, Offset's, each ahead of those behind it.
func TestErrorsAheadOfRows(t *testing.T) {
	b := small()
	binds := list(text(xs(api.MaxValue + 1)))
	q := b.query("select a from t where 1 + 9223372036854775807 limit 'x' offset 1 + 9223372036854775807")
	q.From = slices.Concat(slices.Repeat(b.s.Tables[:1], 9), []api.Table{{Name: "none"}})
	right := b.d
	b.d = api.Data{}
	b.says(t, "wrong rows", q, "error 134", binds...)
	b.d = right
	b.says(t, "a wrong bind", q, "error 135", binds...)
	b.says(t, "a wrong bind behind another one", q, "error 135", append(list(null, num(1)), binds...)...)
	for _, wrong := range wrongValues() {
		b.says(t, "a wrong bind", q, "error 135", wrong)
	}
	b.says(t, "no table", q, "error 111")
	q.From = q.From[:9]
	b.says(t, "too many candidates", q, "error 136")
	q.From = q.From[:1]
	b.says(t, "a wrong Limit", q, "error 133")
	q.Limit = []api.Expr{lit(1)}
	b.says(t, "a wrong Offset", q, "error 20")
	q.Offset = []api.Expr{{Kind: api.EText}}
	b.says(t, "an Offset that is no number", q, "error 133")
	q.Offset = nil
	b.says(t, "a wrong Where", q, "error 20")
}

// P14.2: a limit is a VInt; its own error counts else. Both are computed of binds alone, be there rows or not.
func TestWrongLimits(t *testing.T) {
	b := small()
	binds := list(num(0), text("2"))
	for _, c := range []struct {
		e    api.Expr
		want string
	}{
		{api.Expr{Kind: api.ENull}, "error 133"}, {api.Expr{Kind: api.EText, S: "1"}, "error 133"}, {api.Expr{Kind: api.EBlob, S: "1"}, "error 133"}, {over(), "error 20"}, {none(), "error 130"}, {strange(), "error 21"},
		{bind(1), "error 133"}, {bind(2), "error 133"}, {this(0, 0), "error 133"}, {key(0), "error 133"}, {sum(0), "error 133"},
	} {
		for _, text := range []string{"select a from t", "select a from t where 0", "select a from v, t", "select max(a) from t", "select d from v group by d", "select 1"} {
			q := b.query(text)
			q.Limit = []api.Expr{bind(0)}
			b.says(t, text, q, "", binds...)
			q.Offset = []api.Expr{c.e}
			b.says(t, text, q, c.want, binds...)
			q.Limit = []api.Expr{{Kind: api.ENull}}
			b.says(t, text, q, "error 133", binds...)
			q.Limit, q.Offset = []api.Expr{c.e}, []api.Expr{none()}
			b.says(t, text, q, c.want, binds...)
		}
	}
}

// P14.2: a table is told by its name: the rows are those of the schema's.
func TestTablesByName(t *testing.T) {
	b := small()
	q := api.Query{From: []api.Table{{Name: "u", Cols: []api.Col{{Name: "z"}}, Tree: 77}, {Name: "t"}}, Items: []api.Expr{this(0, 1), this(0, 2), this(1, 0)}}
	b.says(t, "two tables", q, "'p' NULL 1; 'p' NULL 2; 'p' NULL 3; 'p' NULL NULL; 'q' NULL 1; 'q' NULL 2; 'q' NULL 3; 'q' NULL NULL; 'r' NULL 1; 'r' NULL 2; 'r' NULL 3; 'r' NULL NULL")
	for _, name := range []string{"", "T", "none", "tt"} {
		q.From[1].Name = name
		b.says(t, name, q, "error 111")
	}
	q.From = []api.Table{{Name: "none"}, {Name: "v"}}
	b.says(t, "none", q, "error 111")
}

// much is tables of so many rows, t0 to ..
func much(sizes ...int) *base {
	b := &base{s: api.Schema{Version: 1, Next: 1}}
	for i, size := range sizes {
		b.s.Tables = append(b.s.Tables, api.Table{Name: "t" + string(rune('0'+i)), Cols: []api.Col{{Name: "a"}}, Tree: i + 1})
		var rows []api.Row
		for n := range size {
			rows = append(rows, row(n+1, num(int64(n))))
		}
		b.d.Rows = append(b.d.Rows, rows)
		b.s.Next++
	}
	return b
}

// P14.2: MaxOf candidates may be, one more not; without a row in some source there are none.
func TestHowManyCandidates(t *testing.T) {
	b := much(api.MaxOf, 1, 316, 317, 0, 2, api.MaxOf+1)
	tables := func(places string) []api.Table {
		var told []api.Table
		for _, at := range places {
			told = append(told, b.s.Tables[at-'0'])
		}
		return told
	}
	for _, c := range []struct{ places, want string }{
		{"", "1"}, {"0", "100000"}, {"01", "100000"}, {"1011", "100000"}, {"6", "error 136"}, {"16", "error 136"}, {"61", "error 136"}, {"05", "error 136"}, {"50", "error 136"}, {"22", "99856"}, {"23", "error 136"}, {"32", "error 136"}, {"33", "error 136"},
		{"4", "0"}, {"64", "0"}, {"46", "0"}, {"666666664", "0"}, {"466666666", "0"}, {"666646666", "0"}, {"555555555555555555555555", "error 136"}, {"5555555555555555", "65536"}, {"55555555555555555", "error 136"}, {"66666666", "error 136"}, {strings.Repeat("0", 64), "error 136"},
	} {
		q := api.Query{From: tables(c.places), Grouped: true, Totals: []api.Total{{}}, Items: []api.Expr{sum(0)}}
		b.says(t, "of "+c.places, q, c.want)
	}
}

// P14.2: errors come in the order of the Words: Where of all candidates; then of each row Items, and its sort.
func TestOrderOfErrors(t *testing.T) {
	b := made("create table t (a, b, c, d)", "insert into t values (0, 0, 0, 0), (0, 0, 0, 0)")
	at := func(id int, col int, n int64) { b.d.Rows[0][id-1].Vals[col] = num(n) }
	q := api.Query{From: b.s.Tables, Where: []api.Expr{op("or", longIf(this(0, 0)), lit(1))}, Items: []api.Expr{lit(7), overIf(this(0, 1))}, Order: []api.Key{{Expr: lit(1)}, {Expr: op("+", overIf(this(0, 2)), longIf(this(0, 3)))}}}
	b.says(t, "nothing wrong", q, "7 0; 7 0")
	at(2, 3, 1)
	b.says(t, "the sort of the second row", q, "error 3")
	at(2, 1, 1)
	b.says(t, "Items ahead of the sort", q, "error 20")
	at(1, 3, 1)
	b.says(t, "the first row's sort ahead of the second one's Items", q, "error 3")
	at(1, 3, 0)
	at(1, 2, 1)
	at(2, 1, 0)
	at(2, 3, 1)
	b.says(t, "the first row's sort", q, "error 20")
	at(2, 0, 1)
	b.says(t, "Where ahead of all", q, "error 3")
	q.Limit = []api.Expr{lit(0)}
	b.says(t, "Where, with a Limit", q, "error 3")
	at(2, 0, 0)
	b.says(t, "a sort, with a Limit", q, "error 20")
}

// P14.2: what Where has not taken has no errors of Items; what Limit, Offset and Distinct leave out has.
func TestWhatIsAskedOfRows(t *testing.T) {
	b := made("create table t (a)", "insert into t values (1), (1), (9223372036854775807)")
	for _, c := range [][2]string{
		{"select a + 1 from t where a < 5", "2; 2"}, {"select a + 1 from t limit 0", "error 20"}, {"select a + 1 from t limit 1", "error 20"}, {"select a + 1 from t limit 1 offset 9", "error 20"}, {"select a from t order by a + 1 limit 1", "error 20"}, {"select distinct 1 + a * 0 + (a = 5) from t", "1"}, {"select count(a + 1) from t limit 0", "error 20"},
		{"select a from t where a + 1 > 0 and a < 5", "error 20"}, {"select a from t where a < 5 and a + 1 > 0 limit 0", "error 20"}, {"select a from t group by a having a + 1 > 0", "error 20"}, {"select a + 1 from t group by a having a < 5", "2"}, {"select a + 1 from t group by a having a > 0", "error 20"},
	} {
		b.tells(t, c[0], c[1])
	}
	q := b.query("select 1 from t order by a + 1")
	q.Distinct = true
	b.says(t, "a sort of what is left out", q, "error 20")
}

// P14.2: of a grouped query: Where of all; Group and Args of each row; of each group totals, Having, Items, its sort.
func TestOrderOfErrorsOfGroups(t *testing.T) {
	b := made("create table t (a, b, c)", "insert into t values (1, 0, 0), (2, 0, 0), (1, 0, 0)")
	at := func(id int, col int, n int64) { b.d.Rows[0][id-1].Vals[col] = num(n) }
	arg := func(name string, e api.Expr) api.Total { return api.Total{Func: name, Args: []api.Expr{e}} }
	q := api.Query{From: b.s.Tables, Grouped: true, Group: []api.Expr{this(0, 0), longIf(this(0, 1))}, Totals: []api.Total{arg("max", overIf(this(0, 2))), arg("min", lit(1))}, Items: []api.Expr{key(0)}}
	b.says(t, "nothing wrong", q, "1; 2")
	at(2, 2, 1)
	b.says(t, "Args of the second row", q, "error 20")
	at(3, 1, 1)
	b.says(t, "the second row's Args ahead of the third one's Group", q, "error 20")
	at(2, 1, 1)
	b.says(t, "Group ahead of Args", q, "error 3")
	at(2, 1, 0)
	q.Totals[1] = arg("none", lit(1))
	b.says(t, "Args ahead of totals", q, "error 20")
	at(2, 2, 0)
	b.says(t, "the third row's Group ahead of the first group's totals", q, "error 3")
	at(3, 1, 0)
	q.Having = []api.Expr{none()}
	b.says(t, "totals ahead of Having", q, "error 21")
	q.Totals[0] = arg("sum", lit(1<<62))
	b.says(t, "a total ahead of the next one", q, "error 20")
	q.Totals = []api.Total{arg("sum", op("*", op("-", this(0, 0), lit(1)), lit(1<<62))), arg("sum", op("*", op("-", lit(2), this(0, 0)), lit(1<<62)))}
	b.says(t, "the second total of the first group", q, "error 20")
	q.Totals = nil
	q.Items = append(q.Items, strange())
	b.says(t, "Having ahead of Items", q, "error 130")
	q.Having = []api.Expr{op("=", key(0), lit(2))}
	q.Order = []api.Key{{Expr: none()}}
	b.says(t, "Items ahead of their sort", q, "error 21")
	q.Items = []api.Expr{op("*", op("-", key(0), lit(1)), op("*", lit(1<<62), lit(1)))}
	q.Having = nil
	b.says(t, "the sort of the first group", q, "error 130")
	q.Order = []api.Key{{Expr: overIf(op("-", key(0), lit(1)))}}
	b.says(t, "the sort of the second group", q, "error 20")
	q.Having = []api.Expr{op("=", key(0), lit(1))}
	b.says(t, "no sort of a group that Having has not taken", q, "0")
	q.Having = []api.Expr{op("or", op("=", key(0), lit(1)), longIf(op("-", key(0), lit(1))))}
	b.says(t, "Having of the second group", q, "error 3")
	q.Items = []api.Expr{none()}
	b.says(t, "the first group's Items ahead of the second one's Having", q, "error 130")
	q.Where = []api.Expr{op("or", overIf(op("-", this(0, 0), lit(1))), lit(1))}
	q.Group = []api.Expr{none()}
	b.says(t, "Where ahead of all", q, "error 20")
	q.Where = []api.Expr{lit(0)}
	b.says(t, "of no rows", q, "")
	q.Group, q.Having = nil, nil
	b.says(t, "one group of no rows", q, "error 130")
}

// P14.2: totals' errors: of what they are handed, and of what they come to.
func TestErrorsOfTotals(t *testing.T) {
	b := made("create table t (a)", "insert into t values (9223372036854775807), (1), (-5)")
	b.tells(t, "select sum(a) from t", "9223372036854775803")
	b.tells(t, "select sum(a) from t where a > 0", "error 20")
	b.tells(t, "select 1 from t where a > 0 group by a having sum(a) > 1", "1")
	b.d.Rows[0] = []api.Row{row(1, text(xs(api.MaxValue))), row(2, text("")), row(3, null)}
	b.tells(t, "select group_concat(a) from t", "error 3")
	b.tells(t, "select length(group_concat(a)), count(*) from t where length(a) > 0 or a is null", "65536 2")
	q := b.query("select count(*) from t where 0")
	q.Totals[0] = api.Total{Func: "none", Args: []api.Expr{none()}}
	b.says(t, "a total that is none, of no rows", q, "error 21")
	q.Group = []api.Expr{lit(1)}
	b.says(t, "a total that is none, of no groups", q, "")
}
