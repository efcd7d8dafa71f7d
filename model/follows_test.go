package model

import (
	"math"
	"slices"
	"testing"

	"cardindex/api"
	"cardindex/parse"
	"cardindex/resolve"
)

// follows_test.go: P14.5, what follows; all calls held against the twin, for statements by chance.

// maker makes bases and statements.
type maker struct {
	*chance
	*base
	wrong bool // may much be wrong?
}

func newMaker(seed int) *maker {
	m := &maker{chance: newChance(uint64(seed)), wrong: seed%2 > 0}
	m.base = oneOf(m.chance, schemas...).empty()
	return m
}

// empty is a base of the same schema without rows.
func (b *base) empty() *base {
	return &base{b.s, api.Data{Rows: make([][]api.Row, len(b.s.Tables))}}
}

// schemas is some, each of t, u and v.
var schemas = []*base{
	made("create table t (a, b)", "create table u (b, c)", "create table v (d)"),
	made("create table t (a unique, b)", "create table u (b not null, c)", "create table v (d)", "create index i on t (b desc, a)"),
	made("create table t (a not null unique, b unique)", "create table u (b, c)", "create table v (d not null)", "create unique index i on u (c, b desc)", "create unique index j on v (d)"),
}

func (m *maker) value() api.Value {
	if m.one(12) {
		return oneOf(m.chance, num(math.MaxInt64), num(math.MinInt64), num(1<<62), text(" 7x"), blob("\x00"))
	}
	return oneOf(m.chance, null, num(0), num(1), num(1), num(2), num(2), num(3), text("1"), text("a"), blob("1"), text(""))
}

func (m *maker) values(n int) []api.Value {
	var told []api.Value
	for range n {
		told = append(told, m.value())
	}
	return told
}

// fill gives each table some rows that are right.
func (m *maker) fill(most int) {
	for at, of := range m.s.Tables {
		id := 0
		for range max(m.below(most+1), m.below(most+1)) {
			id += 1 + m.below(2)*m.below(3)
			ahead := m.d.Rows[at]
			m.d.Rows[at] = append(slices.Clone(ahead), row(id, m.values(len(of.Cols))...))
			if !Right(m.s, m.d) {
				m.d.Rows[at] = ahead
			}
		}
		if n := len(m.d.Rows[at]); n > 0 && m.one(20) {
			m.d.Rows[at][n-1].Id = api.MaxId - m.below(2)
		}
	}
}

// place is a place of so many, or rarely one that is none.
func (m *maker) place(many int) int64 {
	if many == 0 || m.one(30) {
		return int64(oneOf(m.chance, -1, 7, many))
	}
	return int64(m.below(many))
}

// leaf is an expression without kids: of so many sources, keys, totals.
func (m *maker) leaf(sources, keys, totals int) api.Expr {
	switch m.below(12) {
	case 0:
		return lit(int64(m.below(4)))
	case 1:
		return oneOf(m.chance, api.Expr{Kind: api.EText, S: "a"}, api.Expr{Kind: api.ENull}, api.Expr{Kind: api.EBlob, S: "1"}, lit(1<<62))
	case 2:
		return bind(m.place(2))
	case 3, 4:
		if keys > 0 {
			return key(m.place(keys))
		}
	case 5:
		if totals > 0 {
			return sum(m.place(totals))
		}
	}
	if sources == 0 && keys > 0 {
		return key(m.place(keys))
	}
	return this(int(m.place(sources)), m.place(2))
}

func (m *maker) expr(deep, sources, keys, totals int) api.Expr {
	if m.wrong && m.one(50) {
		return oneOf(m.chance, over(), none(), strange())
	}
	if deep == 0 || m.one(3) {
		return m.leaf(sources, keys, totals)
	}
	kid := func() api.Expr { return m.expr(deep-1, sources, keys, totals) }
	switch m.below(7) {
	case 0:
		return api.Expr{Kind: api.EIs, N: int64(m.below(2)), Kids: []api.Expr{kid()}}
	case 1:
		return api.Expr{Kind: api.EIn, N: int64(m.below(2)), Kids: []api.Expr{kid(), kid(), kid()}}
	case 2:
		return api.Expr{Kind: api.ECall, S: oneOf(m.chance, "typeof", "length"), Kids: []api.Expr{kid()}}
	case 3:
		return op(oneOf(m.chance, "-", "not"), kid())
	}
	return op(oneOf(m.chance, "+", "+", "%", "||", "=", "<>", "<", ">=", "and", "or"), kid(), kid())
}

func (m *maker) exprs(n, deep, sources, keys, totals int) []api.Expr {
	var told []api.Expr
	for range n {
		told = append(told, m.expr(deep, sources, keys, totals))
	}
	return told
}

// some is how many of a list of one at most.
func (m *maker) some(of int) int {
	if !m.one(of) {
		return 0
	}
	return oneOf(m.chance, 1, 1, 1, 1, 2)
}

// where is what must be true; often it is.
func (m *maker) where(sources, keys, totals int) []api.Expr {
	told := m.exprs(m.some(2), 2, sources, keys, totals)
	for i, e := range told {
		switch m.below(4) {
		case 0:
			told[i] = op("or", e, m.leaf(sources, keys, totals))
		case 1:
			told[i] = api.Expr{Kind: api.EIs, Kids: []api.Expr{e}}
		case 2:
			told[i] = op("<>", e, m.leaf(0, 0, 0))
		}
	}
	return told
}

func (m *maker) query() api.Query {
	q := api.Query{Grouped: m.one(2), Distinct: m.one(4)}
	for range oneOf(m.chance, 0, 1, 1, 1, 2, 2, 3) {
		q.From = append(q.From, oneOf(m.chance, m.s.Tables...))
		if m.wrong && m.one(60) {
			q.From = append(q.From, oneOf(m.chance, api.Table{Name: "none"}, api.Table{Name: "u"}))
		}
	}
	sources, keys, totals := len(q.From), 0, 0
	q.Where = m.where(sources, 0, 0)
	if q.Grouped || m.one(10) {
		keys, totals = oneOf(m.chance, 0, 1, 1, 1, 2, 2), m.below(3)
		q.Group = m.exprs(keys, m.below(2), sources, 0, 0)
		for range totals {
			q.Totals = append(q.Totals, m.total(sources))
		}
		if m.one(3) {
			q.Having = m.where(0, keys, totals)
		}
	}
	if q.Grouped && !m.one(10) {
		sources = 0
	}
	q.Items = m.exprs(oneOf(m.chance, 0, 1, 1, 2, 2, 3), 1, sources, keys, totals)
	for range oneOf(m.chance, 0, 0, 1, 1, 2) {
		e := m.expr(1, sources, keys, totals)
		if len(q.Items) > 0 && (q.Distinct || m.one(2)) {
			e = oneOf(m.chance, q.Items...)
		}
		q.Order = append(q.Order, api.Key{Expr: e, Desc: m.one(2)})
	}
	q.Limit, q.Offset = m.limit(), m.limit()
	return q
}

func (m *maker) total(sources int) api.Total {
	t := api.Total{Func: oneOf(m.chance, "count", "sum", "total", "min", "max", "group_concat"), Distinct: m.one(3), Args: m.exprs(oneOf(m.chance, 0, 1, 1, 1, 1, 2), 1, sources, 0, 0)}
	if len(t.Args) == 0 && !m.one(8) {
		t.Distinct = false
	}
	if m.wrong && m.one(30) {
		t.Func = oneOf(m.chance, "none", "count*", "")
	}
	return t
}

func (m *maker) limit() []api.Expr {
	var told []api.Expr
	for range m.some(5) {
		e := lit(oneOf[int64](m.chance, 0, 1, 1, 2, 3, 5, -1, math.MaxInt64, math.MinInt64))
		if m.one(12) {
			e = oneOf(m.chance, over(), bind(0), api.Expr{}, api.Expr{Kind: api.EText, S: "1"})
		}
		told = append(told, e)
	}
	return told
}

// binds is one or two; one of them is wrong rarely.
func (m *maker) binds() []api.Value {
	told := m.values(1 + m.below(2))
	if m.wrong && m.one(80) {
		told[len(told)-1] = oneOf(m.chance, wrongValues()...)
	}
	return told
}

// spoil does something to the rows, rarely.
func (m *maker) spoil() {
	at := m.below(len(m.d.Rows))
	if rows := m.d.Rows[at]; m.wrong && m.one(60) && len(rows) > 0 {
		switch m.below(3) {
		case 0:
			rows[0].Id = 0
		case 1:
			m.d.Rows = m.d.Rows[:at]
		case 2:
			rows[0].Vals = rows[0].Vals[1:]
		}
	}
}

// ahead is the error that there is ahead of what a statement says.
func (m *maker) ahead(binds []api.Value) api.Errno {
	switch {
	case !Right(m.s, m.d):
		return api.ErrData
	case !allRight(binds):
		return api.ErrBind
	}
	return api.OK
}

func sameLists(a, b [][]api.Value) bool { return slices.EqualFunc(a, b, slices.Equal) }

// varied is a list of what may be told, with something else about it.
func (m *maker) varied(got [][]api.Value) [][]api.Value {
	told := slices.Clone(got)
	for range m.below(4) {
		if len(told) == 0 {
			return slices.Concat(told, [][]api.Value{m.values(m.below(3))})
		}
		i, j := m.below(len(told)), m.below(len(told))
		switch m.below(9) {
		case 0:
			told = slices.Delete(told, i, i+1)
		case 1:
			told = append(told, told[i])
		case 2:
			told[i] = m.values(m.below(3))
		case 3:
			told[i] = told[j]
		default:
			told[i], told[j] = told[j], told[i]
		}
	}
	return told
}

// holdQuery asks of a query whether the twin says the same; and what follows of what it tells.
func (m *maker) holdQuery(t *testing.T, q api.Query, binds []api.Value) ([][]api.Value, api.Errno) {
	t.Helper()
	got, err := Query(m.s, m.d, q, binds)
	want, wantErr := [][]api.Value(nil), m.ahead(binds)
	if wantErr == api.OK {
		want, wantErr = twinQuery(m.s, m.d, q, binds)
	}
	if err != wantErr || !sameLists(got, want) {
		t.Fatalf("%+v\nof %s, binds %s: %s, error %d, not %s, error %d", q, showData(m.d), showAll(binds), showList(got), err, showList(want), wantErr)
	}
	if !Admits(m.s, m.d, q, binds, got) {
		t.Fatalf("%+v\nof %s, binds %s: %s, error %d, is not admitted", q, showData(m.d), showAll(binds), showList(got), err)
	}
	return got, err
}

// holdAdmits asks whether the twin admits the same.
func (m *maker) holdAdmits(t *testing.T, q api.Query, binds []api.Value, got [][]api.Value) bool {
	t.Helper()
	want := len(got) == 0
	if m.ahead(binds) == api.OK {
		want = twinAdmits(m.s, m.d, q, binds, got)
	}
	if Admits(m.s, m.d, q, binds, got) != want {
		t.Fatalf("%+v\nof %s, binds %s: %s is admitted: %v", q, showData(m.d), showAll(binds), showList(got), !want)
	}
	return want
}

// P14.2, P14.3, P14.5: queries by chance are what their twin says; what is told is admitted.
func TestQueriesByChance(t *testing.T) {
	met, yes, no := map[api.Errno]int{}, 0, 0
	for n := range 8000 {
		m := newMaker(n)
		m.fill(4)
		m.spoil()
		q, binds := m.query(), m.binds()
		got, err := m.holdQuery(t, q, binds)
		met[err]++
		if err != api.OK && !q.Grouped { // what candidates tell, by a query that has no error
			some := q
			some.Where, some.Order, some.Limit, some.Offset = nil, nil, nil, nil
			some.Items = slices.Clone(q.Items)
			for i := range some.Items {
				if m.one(4) {
					some.Items[i] = m.leaf(len(q.From), 0, 0)
				}
			}
			got, _ = Query(m.s, m.d, some, binds)
			got = got[:min(len(got), m.below(4))]
		}
		for range 3 {
			if m.holdAdmits(t, q, binds, m.varied(got)) {
				yes++
			} else {
				no++
			}
		}
	}
	for _, err := range []api.Errno{api.ErrData, api.ErrBind, api.ErrNone, api.ErrLimit, api.ErrOver, api.ErrExpr, api.ErrFunc, api.ErrArg} {
		if met[err] < 15 {
			t.Errorf("error %d was met %d times", err, met[err])
		}
	}
	if met[api.OK] < 5000 || yes < 6000 || no < 6000 {
		t.Errorf("met: %v, admitted %d, not %d", met, yes, no)
	}
}

// P14.5: rows that are right stay so, by statements by chance, which come to what their twin says.
func TestChangesByChance(t *testing.T) {
	met, kinds := map[api.Errno]int{}, map[api.StmtKind]int{}
	for n := range 8000 {
		m := newMaker(n)
		m.fill(5)
		m.spoil()
		r := m.stmt()
		err := m.holdChange(t, r, m.binds())
		met[err]++
		if err == api.OK {
			kinds[r.Kind]++
		}
	}
	for _, err := range []api.Errno{api.ErrData, api.ErrBind, api.ErrTree, api.ErrNone, api.ErrRows, api.ErrLimit, api.ErrOver, api.ErrExpr, api.ErrFunc, api.ErrNull, api.ErrUnique} {
		if met[err] < 15 {
			t.Errorf("error %d was met %d times", err, met[err])
		}
	}
	if kinds[api.SInsert] < 1000 || kinds[api.SUpdate] < 1000 || kinds[api.SDelete] < 1000 {
		t.Errorf("met: %v, %v", met, kinds)
	}
}

// stmt is a statement that changes rows.
func (m *maker) stmt() api.Res {
	r := api.Res{Kind: oneOf(m.chance, api.SInsert, api.SInsert, api.SUpdate, api.SUpdate, api.SDelete), Table: oneOf(m.chance, m.s.Tables...)}
	for i := range r.Table.Cols {
		if !m.one(6) {
			r.Cols = append(r.Cols, i)
		}
		if m.one(20) {
			r.Cols = append(r.Cols, oneOf(m.chance, -1, 0, 1, 2, 77))
		}
	}
	r.Where = m.where(1, 0, 0)
	r.Exprs = m.exprs(len(r.Cols)-m.below(2)*m.below(2), 1, 1, 0, 0)
	if r.Kind == api.SInsert {
		for range m.below(3) {
			r.Rows = append(r.Rows, m.exprs(len(r.Cols)-m.below(2)*m.below(2), 1, 0, 0, 0))
		}
		for range m.some(2) {
			r.Query = append(r.Query, m.query())
		}
	}
	if m.wrong && m.one(30) {
		r.Kind = api.StmtKind(m.below(20))
	}
	if m.wrong && m.one(40) {
		r.Table.Name = oneOf(m.chance, "none", "t", "")
	}
	return r
}

// holdChange asks of a statement whether the twin says the same; and whether the rows are right then.
func (m *maker) holdChange(t *testing.T, r api.Res, binds []api.Value) api.Errno {
	t.Helper()
	got, n, err := Change(m.s, m.d, r, binds)
	var rows []api.Row
	wantN, wantErr := 0, m.ahead(binds)
	if wantErr == api.OK {
		rows, wantN, wantErr = twinChange(m.s, m.d, r, binds)
	}
	want := api.Data{Rows: slices.Clone(m.d.Rows)}
	if wantErr == api.OK {
		want.Rows[placeOf(m.s, r.Table.Name)] = rows
	} else {
		wantN = 0
	}
	if err != wantErr || n != wantN || showData(got) != showData(want) {
		t.Fatalf("%+v\nof %s, binds %s: %d: %s, error %d, not %d: %s, error %d", r, showData(m.d), showAll(binds), n, showData(got), err, wantN, showData(want), wantErr)
	}
	if Right(m.s, got) != Right(m.s, m.d) {
		t.Fatalf("%+v\nof %s, binds %s: %s: no right rows", r, showData(m.d), showAll(binds), showData(got))
	}
	return err
}

// P14.3: where rows come in another order, what a query tells is admitted, too.
func TestAnotherOrderIsAdmitted(t *testing.T) {
	changed := 0
	for n := range 4000 {
		m := newMaker(n)
		m.fill(5)
		q, binds := m.query(), m.values(2)
		told, err := Query(m.s, m.d, q, binds)
		other := api.Data{}
		for _, rows := range m.d.Rows {
			rows = slices.Clone(rows)
			for i := range rows {
				j := m.below(i + 1)
				rows[i].Vals, rows[j].Vals = rows[j].Vals, rows[i].Vals
			}
			other.Rows = append(other.Rows, rows)
		}
		got, gotErr := Query(m.s, other, q, binds)
		if q.Distinct && len(q.Items) == 0 && len(q.Order) > 0 {
			continue // what it is sorted by is not told: which one counts hangs on the order
		}
		if (err == api.OK) != (gotErr == api.OK) || !Admits(m.s, m.d, q, binds, got) {
			t.Fatalf("%+v\nof %s, %s, binds %s: %s, error %d, and %s, error %d", q, showData(m.d), showData(other), showAll(binds), showList(told), err, showList(got), gotErr)
		}
		if !sameLists(got, told) {
			changed++
		}
	}
	if changed < 200 {
		t.Errorf("%d tell something else", changed)
	}
}

// P14.1, P14.5: what is asked of all rows at once is what the twin asks of them one by one.
func TestRightRowsByChance(t *testing.T) {
	right, wrong := 0, 0
	for n := range 3000 {
		m := newMaker(n)
		want := true
		for at, of := range m.s.Tables {
			fresh := map[int]bool{}
			for id := range m.below(4) {
				m.d.Rows[at] = append(m.d.Rows[at], row(id+1, m.values(len(of.Cols))...))
				fresh[id+1] = true
			}
			want = want && twinSound(m.s, of, m.d.Rows[at], fresh) == api.OK
		}
		if Right(m.s, m.d) != want {
			t.Fatalf("%v: right rows: %v: %s", m.s.Indexes, !want, showData(m.d))
		}
		if want {
			right++
		} else {
			wrong++
		}
	}
	if right < 300 || wrong < 300 {
		t.Errorf("%d are right, %d not", right, wrong)
	}
}

// P14.2 to P14.5: texts that nobody thought of, one behind the other.
func FuzzModel(f *testing.F) {
	f.Add("insert into t values (1, 2), (?, 'x')", "update t set a = a + 1 where b > 1", "select a, b, count(*) from t group by a, b having count(*) > 0 order by b desc", int64(5))
	f.Add("insert into u select b, a from t limit ?", "delete from u where c like '%x'", "select distinct x.a, u.c from t as x, u where x.b = u.b order by u.c limit 3 offset 1", int64(-1))
	f.Add("insert into v values (9223372036854775807)", "insert into v select d + 1 from v", "select sum(d), max(distinct d), group_concat(d || ?) from v", int64(1)<<62)
	f.Fuzz(func(t *testing.T, one, two, three string, n int64) {
		for i, b := range schemas {
			m := &maker{chance: newChance(uint64(n)), base: b.empty()}
			m.fill(3)
			for _, text := range []string{one, two, three} {
				x, f := parse.Parse(text)
				r, err := resolve.Resolve(m.s, x)
				if f.Err != api.OK || err != api.OK || len(r.Query) > 0 && len(r.Query[0].From) > 3 {
					continue
				}
				binds := list(num(n), text2(i), num(1))[:min(r.Binds, 3)]
				if r.Kind == api.SSelect {
					got, _ := m.holdQuery(t, r.Query[0], binds)
					m.holdAdmits(t, r.Query[0], binds, m.varied(got))
					continue
				}
				if m.holdChange(t, r, binds) == api.OK {
					m.d, _, _ = Change(m.s, m.d, r, binds)
				}
			}
		}
	})
}

// text2 is some text.
func text2(n int) api.Value { return text([]string{"", "x", "2"}[n%3]) }
