package resolve

import (
	"slices"
	"strconv"
	"strings"
	"testing"

	"cardindex/api"
	"cardindex/parse"
)

// follows_test.go: P12.2, what follows; Resolve held against its twin, for statements by chance.

// writer writes statements, of which many are right, and many name what there is.
type writer struct {
	*chance
	seen   []string // what names a column: t.a, and a, where that is the only one
	group  []string
	totals bool // may they be?
	once   bool // is something wrong already?
}

// wrong: should something be wrong here? Once in a statement, mostly.
func (w *writer) wrong(of int) bool {
	if !w.once && w.one(of) {
		w.once = !w.one(4)
		return true
	}
	return false
}

// list is from least to most texts, with commas between them.
func (w *writer) list(least, most int, make func() string) string {
	var all []string
	for range least + w.below(most-least+1) {
		all = append(all, make())
	}
	return strings.Join(all, ", ")
}

func (w *writer) column() string {
	switch {
	case len(w.group) > 0 && !w.one(30):
		return oneOf(w.chance, w.group...)
	case len(w.seen) == 0 && !w.one(10):
		return "1"
	case len(w.seen) == 0 || w.wrong(60):
		return oneOf(w.chance, "z", "a", "b", "x.a", "t.b", "u.b", "v.z", "x")
	}
	return oneOf(w.chance, w.seen...)
}

func (w *writer) expr(deep int) string {
	if deep == 0 || w.one(3) {
		return oneOf(w.chance, w.column(), w.column(), w.column(), "?", "1", "2", "null", "'x'", "x'00'")
	}
	kid := func() string { return "(" + w.expr(deep-1) + ")" }
	switch w.below(12) {
	case 0:
		return oneOf(w.chance, "-", "not ") + kid()
	case 1:
		return kid() + oneOf(w.chance, " is null", " is not null")
	case 2:
		return kid() + oneOf(w.chance, " in (", " not in (") + w.list(1, 3, kid) + ")"
	case 3:
		return "cast(" + kid() + " as " + oneOf(w.chance, "int", "text") + ")"
	case 4, 5:
		return w.call(kid)
	case 6, 7, 8:
		if w.totals || w.wrong(30) {
			return w.total(deep)
		}
	}
	return kid() + " " + oneOf(w.chance, "+", "-", "=", "<", "and", "or", "like", "||", "%") + " " + kid()
}

func (w *writer) call(kid func() string) string {
	if w.wrong(12) {
		return oneOf(w.chance, "f("+kid()+")", "length(distinct "+kid()+")", "sum(*)", "substr("+kid()+")", "count()", "max("+kid()+", "+kid()+")", "abs(*)")
	}
	return oneOf(w.chance, "length", "hex", "typeof") + "(" + kid() + ")" + oneOf(w.chance, "", " + ifnull("+kid()+", 2)", " + coalesce("+w.list(2, 4, kid)+")")
}

// total is one; of it columns may stand that the query is not grouped by.
func (w *writer) total(deep int) string {
	if w.one(4) {
		return "count(*)"
	}
	within := *w
	within.totals, within.group = false, nil
	of := within.expr(oneOf(w.chance, 0, 0, deep-1))
	w.once = within.once
	return oneOf(w.chance, "count", "sum", "sum", "total", "min", "max", "group_concat") + "(" + oneOf(w.chance, "", "", "distinct ") + of + ")"
}

// from is sources; behind it their columns are seen.
func (w *writer) from() string {
	tables := map[string][]string{"t": {"a", "b", "c"}, "u": {"b", "d"}, "v": {"e"}}
	text := ""
	var names, columns []string
	n := oneOf(w.chance, 0, 1, 1, 1, 2, 2, 3, 6)
	if w.wrong(25) {
		n = 7
	}
	for i := range n {
		table := oneOf(w.chance, "t", "t", "u", "v")
		called := table
		if as := oneOf(w.chance, "x", "y", "u"); w.one(3) && !slices.Contains(names, as) {
			called = as
		}
		for slices.Contains(names, called) && !w.wrong(50) {
			called = "s" + strconv.Itoa(i)
		}
		names = append(names, called)
		said := table
		if called != table {
			said += " as " + called
		}
		if w.wrong(80) {
			said = "none"
		}
		for _, c := range tables[table] {
			columns = append(columns, c)
			w.seen = append(w.seen, called+"."+c)
		}
		switch {
		case i == 0:
			text = " from " + said
		case w.one(2):
			text += ", " + said
		default:
			text += " join " + said + " on " + w.expr(2)
		}
	}
	for _, c := range columns {
		if at := slices.Index(columns, c); !slices.Contains(columns[at+1:], c) || w.wrong(20) {
			w.seen = append(w.seen, c)
		}
	}
	return text
}

func (w *writer) item() string {
	switch {
	case (len(w.group) == 0 && len(w.seen) > 0 && w.one(8)) || w.wrong(100):
		return oneOf(w.chance, "*", "*", strings.Split(oneOf(w.chance, append(w.seen, "x.a")...), ".")[0]+".*")
	case w.one(3):
		return w.expr(2) + " as " + oneOf(w.chance, "x", "y", "a", "b")
	}
	return w.expr(2)
}

// query is a query. The order is said ahead of the rest, as a part that is not there may be wanted.
func (w *writer) query() string {
	from := w.from()
	if w.one(3) {
		from += " where " + w.expr(3)
	}
	w.totals = w.one(3)
	if w.one(2) {
		group := []string{}
		w.totals = false
		for range 1 + w.below(3) {
			group = append(group, "("+w.expr(1)+")")
		}
		w.group = group
		from += " group by " + strings.Join(group, ", ")
		w.totals = true
		if w.one(2) {
			from += " having " + w.expr(2)
		}
	}
	items := w.list(1, 4, w.item)
	distinct := ""
	key := func() string {
		return oneOf(w.chance, w.expr(2), w.expr(1), oneOf(w.chance, "x", "y", "a"), w.column()) + oneOf(w.chance, "", " desc")
	}
	if w.one(4) {
		distinct = "distinct "
		key = func() string {
			if w.wrong(4) {
				return w.expr(1)
			}
			return strings.Split(oneOf(w.chance, strings.Split(items, ", ")...), " as ")[0]
		}
	}
	if w.one(2) {
		from += " order by " + w.list(1, 3, key)
	}
	w.seen, w.group, w.totals = nil, nil, false
	if w.one(4) {
		from += " limit " + w.expr(1) + " offset " + w.expr(1)
	}
	return "select " + distinct + items + from
}

func (w *writer) stmt() string {
	tables := map[string][]string{"t": {"a", "b", "c"}, "u": {"b", "d"}, "v": {"e"}}
	table := oneOf(w.chance, "t", "u", "v")
	cols := tables[table]
	switch w.below(10) {
	case 0, 1:
		text := "insert into " + table
		if w.one(2) {
			cols = cols[w.below(len(cols)):]
			text += " (" + strings.Join(cols, ", ") + map[bool]string{true: oneOf(w.chance, ", z", ", "+cols[0])}[w.wrong(6)] + ")"
		}
		if w.one(3) {
			return text + " " + w.query()
		}
		row := func() string {
			n := len(cols)
			if w.wrong(10) {
				n = 1 + w.below(4)
			}
			return "(" + w.list(n, n, func() string { return w.expr(2) }) + ")"
		}
		return text + " values " + w.list(1, 3, row)
	case 2, 3:
		if w.wrong(10) {
			cols = append(cols[1:], "z", cols[0], cols[0])
		}
		for _, c := range tables[table] {
			w.seen = append(w.seen, c, table+"."+c)
		}
		text := oneOf(w.chance, "update ", "delete from ") + table
		if w.wrong(20) {
			text += "t"
		}
		if strings.HasPrefix(text, "update ") {
			var sets []string
			for _, c := range cols {
				sets = append(sets, c+" = "+w.expr(2))
			}
			text += " set " + strings.Join(sets, ", ")
		}
		return text + oneOf(w.chance, "", " where "+w.expr(3))
	}
	return w.query()
}

// hold asks of a statement whether its twin says the same; and what follows of what it is resolved to.
func hold(t *testing.T, text string, x api.Stmt) api.Errno {
	t.Helper()
	got, err := Resolve(base(), x)
	want, wantErr := twinRes(base(), x)
	switch {
	case err != wantErr || err == api.OK && spellRes(got) != want:
		t.Fatalf("%s:\n%s, error %d, not\n%s, error %d", text, spellRes(got), err, want, wantErr)
	case err == api.OK:
		follows(t, text, got)
	default:
		refuses(t, base(), x, err)
	}
	return err
}

// P12.1, P12.2: statements by chance.
func TestStatementsByChance(t *testing.T) {
	met := map[api.Errno]int{}
	grouped, parsed := 0, 0
	for n := range 20000 {
		text := (&writer{chance: newChance(uint64(n))}).stmt()
		x, f := parse.Parse(text)
		if f.Err != api.OK {
			continue
		}
		parsed++
		err := hold(t, text, x)
		met[err]++
		if err == api.OK && strings.Contains(text, "group by") {
			grouped++
		}
	}
	for _, err := range []api.Errno{api.ErrNone, api.ErrTwice, api.ErrMany, api.ErrColumn, api.ErrCall, api.ErrTotal, api.ErrPlain, api.ErrCount, api.ErrAmbig} {
		if met[err] < 150 {
			t.Errorf("error %d was met %d times", err, met[err])
		}
	}
	if met[api.OK] < 8000 || grouped < 2500 || parsed < 15000 {
		t.Errorf("met: %v, grouped %d, parsed %d", met, grouped, parsed)
	}
}

// places is how many of each there are, where an expression stands.
type places struct {
	from                []api.Table
	binds, totals, keys int
}

// are: is each place that these expressions tell one of those that there are?
func (p places) are(list ...api.Expr) bool {
	for _, e := range list {
		within := func(most int) bool { return e.N >= 0 && e.N < int64(most) }
		right := true
		switch e.Kind {
		case api.EThis:
			right = e.A >= 0 && e.A < len(p.from) && within(len(p.from[e.A].Cols))
		case api.EBind:
			right = within(p.binds)
		case api.ETotal:
			right = within(p.totals)
		case api.EKey:
			right = within(p.keys)
		case api.EName, api.EStar:
			right = false
		}
		if !right || !p.are(e.Kids...) {
			return false
		}
	}
	return true
}

// areOf: likewise, of all that a query tells.
func areOf(q api.Query, binds int) bool {
	rows := places{from: q.From, binds: binds}
	right := rows.are(q.Where...) && rows.are(q.Group...) && len(q.Where) <= 1 && len(q.Names) == len(q.Items) && len(q.From) <= api.MaxSources
	for _, t := range q.Totals {
		right = right && rows.are(t.Args...)
	}
	told := rows
	if q.Grouped {
		told = places{binds: binds, keys: len(q.Group), totals: len(q.Totals)}
	} else {
		right = right && len(q.Group)+len(q.Totals)+len(q.Having) == 0
	}
	right = right && told.are(q.Items...) && told.are(q.Having...)
	for _, k := range q.Order {
		right = right && told.are(k.Expr)
	}
	nothing := places{binds: binds}
	return right && nothing.are(q.Limit...) && nothing.are(q.Offset...)
}

// follows asks P12.2 of what a statement is resolved to.
func follows(t *testing.T, text string, r api.Res) {
	t.Helper()
	nothing, table := places{binds: r.Binds}, places{binds: r.Binds, from: []api.Table{r.Table}}
	right := table.are(r.Exprs...) && table.are(r.Where...)
	for _, row := range r.Rows {
		right = right && nothing.are(row...) && len(row) == len(r.Cols)
	}
	for i, c := range r.Cols {
		right = right && c >= 0 && c < len(r.Table.Cols) && !slices.Contains(r.Cols[:i], c)
	}
	for _, q := range r.Query {
		right = right && areOf(q, r.Binds)
	}
	if !right {
		t.Fatalf("%s: a place that is none: %s", text, spellRes(r))
	}
}

// P12.1, P12.2: texts that nobody thought of.
func FuzzResolve(f *testing.F) {
	for _, text := range []string{
		"select distinct *, t.*, - a as x from t, u as v join v as w on t.a = ? where not a in (1, 'x')", "select a + 1, count(*), sum(distinct b) as n from t group by a + 1 having max(c) > ? order by n desc, a + 1 limit ? offset 2",
		"insert into t (a, b) values (1, null), (cast(x'00' as text), ?)", "insert into u select a, length(b) from t order by c", "update t set a = a || 'b', c = t.b where a is not null", "delete from u where d like '%'", "create table t (a)", "begin",
	} {
		f.Add(text)
	}
	f.Fuzz(func(t *testing.T, text string) {
		if x, f := parse.Parse(text); f.Err == api.OK {
			hold(t, text, x)
		}
	})
}
