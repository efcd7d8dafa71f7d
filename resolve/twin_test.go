package resolve

import (
	"fmt"
	"reflect"
	"slices"
	"strconv"
	"strings"

	"cardindex/api"
)

// twin_test.go: the chapter said in another way: a right statement is resolved to a text at once, and what is the same is told by texts.

// twin is a statement under way: what is seen, and what it has so far. An error is a panic of it.
type twin struct {
	columns map[string][]string // of each table
	seen    []string            // what the sources are called, and of which tables they are, in turns
	totals  []string
	group   []string
	grouped bool
}

// twinRes is what a right statement of a right schema is resolved to, or its error.
func twinRes(s api.Schema, x api.Stmt) (text string, err api.Errno) {
	defer func() {
		if e, is := recover().(api.Errno); is {
			text, err = "", e
		}
	}()
	w := &twin{columns: map[string][]string{}}
	for _, t := range s.Tables {
		for _, c := range t.Cols {
			w.columns[t.Name] = append(w.columns[t.Name], c.Name)
		}
	}
	return w.stmt(x), api.OK
}

// must has the statement fail, unless it is so.
func must(so bool, err api.Errno) {
	if !so {
		panic(err)
	}
}

func (w *twin) stmt(x api.Stmt) string {
	head := kindNames()[x.Kind]
	if n := twinBinds(reflect.ValueOf(x)); n > 0 {
		head += " binds=" + strconv.Itoa(n)
	}
	switch x.Kind {
	case api.SSelect:
		query, _ := w.query(x.Query[0])
		return head + " query={" + query + "}"
	case api.SInsert, api.SUpdate, api.SDelete:
		return head + w.change(x)
	}
	return head + " stmt=" + spellStmt(x)
}

// twinBinds is how many binds stand in anything, wherever.
func twinBinds(v reflect.Value) int {
	n := 0
	switch v.Kind() {
	case reflect.Struct:
		if e, is := v.Interface().(api.Expr); is && e.Kind == api.EBind {
			n++
		}
		for i := range v.NumField() {
			n += twinBinds(v.Field(i))
		}
	case reflect.Slice:
		for i := range v.Len() {
			n += twinBinds(v.Index(i))
		}
	}
	return n
}

func (w *twin) change(x api.Stmt) string {
	cols, there := w.columns[x.Table]
	must(there, api.ErrNone)
	said := " table=" + x.Table
	var at []string
	for i, name := range x.Names {
		must(slices.Contains(cols, name), api.ErrColumn)
		must(slices.Index(x.Names, name) == i, api.ErrTwice)
		at = append(at, strconv.Itoa(slices.Index(cols, name)))
	}
	if x.Kind == api.SInsert && at == nil {
		for i := range cols {
			at = append(at, strconv.Itoa(i))
		}
	}
	if at != nil {
		said += " cols=" + strings.Join(at, " ")
	}
	for i, row := range x.Rows {
		must(len(row) == len(at), api.ErrCount)
		said += map[bool]string{true: " rows="}[i == 0] + "(" + w.all(row, 0) + ")"
	}
	for _, q := range x.Query {
		query, n := w.query(q)
		must(n == len(at), api.ErrCount)
		said += " query={" + query + "}"
	}
	w.seen = []string{x.Table, x.Table}
	return said + under(" exprs=", w.all(x.Exprs, 1)) + under(" where=", w.all(x.Where, 1))
}

func under(name, text string) string {
	if text == "" {
		return ""
	}
	return name + text
}

// query is a query, and how many items it has.
func (w *twin) query(x api.Select) (string, int) {
	from := ""
	for _, f := range x.From {
		must(w.columns[f.Table] != nil, api.ErrNone)
		called := f.As + f.Table
		if f.As != "" {
			called = f.As
		}
		for i := 0; i < len(w.seen); i += 2 {
			must(w.seen[i] != called, api.ErrTwice)
		}
		w.seen = append(w.seen, called, f.Table)
		from += " " + f.Table
	}
	n := len(x.From)
	must(n < 7, api.ErrMany)
	where := ""
	for i, f := range append(slices.Clone(x.From), api.Source{On: x.Where}) {
		if on := w.all(f.On, min(i+1, n)); where == "" || on == "" {
			where += on
		} else {
			where = "(" + where + " and " + on + ")"
		}
	}
	for _, e := range x.Group {
		w.group = append(w.group, w.expr(e, n, false))
	}
	w.grouped = len(w.group) > 0
	for _, i := range x.Items {
		w.grouped = w.grouped || hasTotal(i.Expr)
	}
	for _, k := range x.Order {
		w.grouped = w.grouped || hasTotal(k.Expr)
	}
	items, names := w.items(x)
	having := ""
	for _, e := range x.Having {
		having = w.told(e, n)
	}
	order := w.order(x, items)
	limit, offset := w.all(x.Limit, 0), w.all(x.Offset, 0)
	var all []string
	for i := range items {
		all = append(all, names[i]+":"+items[i])
	}
	head := map[bool]string{true: "distinct "}[x.Distinct] + strings.Join(all, ", ") + under(" from", from) + under(" where ", where)
	head += map[bool]string{true: " grouped"}[w.grouped] + under(" by ", strings.Join(w.group, ", ")) + under(" ", strings.Join(w.totals, " "))
	return head + under(" having ", having) + under(" order ", order) + under(" limit ", limit) + under(" offset ", offset), len(items)
}

func (w *twin) items(x api.Select) (items, names []string) {
	for _, i := range x.Items {
		if i.Expr.Kind == api.EStar {
			before := len(items)
			for at := range x.From {
				if i.Expr.T != "" && i.Expr.T != w.seen[2*at] {
					continue
				}
				for col, name := range w.columns[w.seen[2*at+1]] {
					items = append(items, w.left(fmt.Sprintf("%d.%d", at, col)))
					names = append(names, name)
				}
			}
			must(len(items) > before, api.ErrNone)
			continue
		}
		items = append(items, w.told(i.Expr, len(x.From)))
		name := map[bool]string{true: i.Expr.S}[i.Expr.Kind == api.EName]
		if i.As != "" {
			name = i.As
		}
		names = append(names, name)
	}
	return items, names
}

func (w *twin) order(x api.Select, items []string) string {
	var all []string
	for _, k := range x.Order {
		text := ""
		at := 0
		for _, i := range x.Items {
			if k.Expr.Kind == api.EName && k.Expr.T == "" && k.Expr.S == i.As && text == "" {
				text = items[at]
			}
			at++
			if i.Expr.Kind == api.EStar {
				at += w.width(i.Expr.T) - 1
			}
		}
		if text == "" {
			text = w.told(k.Expr, len(x.From))
		}
		must(!x.Distinct || slices.Contains(items, text), api.ErrPlain)
		all = append(all, text+map[bool]string{true: " desc"}[k.Desc])
	}
	return strings.Join(all, ", ")
}

// width is how many columns a star says.
func (w *twin) width(name string) int {
	n := 0
	for i := 0; i < len(w.seen); i += 2 {
		if name == "" || name == w.seen[i] {
			n += len(w.columns[w.seen[i+1]])
		}
	}
	return n
}

// all is a list among the first sources, without totals.
func (w *twin) all(list []api.Expr, sources int) string {
	var told []string
	for _, e := range list {
		told = append(told, w.expr(e, sources, false))
	}
	return strings.Join(told, ", ")
}

func hasTotal(e api.Expr) bool {
	return twinTotal(e) || slices.ContainsFunc(e.Kids, hasTotal)
}

func twinTotal(e api.Expr) bool {
	if e.Kind != api.ECall || e.N == 2 && e.S != "count" || e.N != 2 && len(e.Kids) != 1 {
		return false
	}
	return strings.Contains(" count sum total min max group_concat ", " "+e.S+" ")
}

// twinFunction: is there a function of so many arguments?
func twinFunction(name string, n int) bool {
	return name == "coalesce" && n >= 2 && n <= 100 ||
		strings.Contains(" length1 upper1 lower1 abs1 typeof1 hex1 ifnull2 instr2 substr2 substr3 ", " "+name+strconv.Itoa(n)+" ")
}

// expr is an expression among the first sources.
func (w *twin) expr(e api.Expr, sources int, totals bool) string {
	if twinTotal(e) {
		must(totals, api.ErrTotal)
		text := spellTotal(e.S, e.N == 1, w.all(e.Kids, sources))
		if !slices.Contains(w.totals, text) {
			w.totals = append(w.totals, text)
		}
		return "total" + strconv.Itoa(slices.Index(w.totals, text))
	}
	var kids []string
	for _, kid := range e.Kids {
		kids = append(kids, w.expr(kid, sources, totals))
	}
	if e.Kind == api.EName {
		return w.name(e, sources)
	}
	must(e.Kind != api.ECall || e.N == 0 && twinFunction(e.S, len(kids)), api.ErrCall)
	return compose(e, kids)
}

func (w *twin) name(e api.Expr, sources int) string {
	var found []string
	named := false
	for i := range sources {
		if e.T != "" && e.T != w.seen[2*i] {
			continue
		}
		named = true
		if col := slices.Index(w.columns[w.seen[2*i+1]], e.S); col >= 0 {
			found = append(found, fmt.Sprintf("%d.%d", i, col))
		}
	}
	must(e.T == "" || named, api.ErrNone)
	must(len(found) > 0, api.ErrColumn)
	must(len(found) == 1, api.ErrAmbig)
	return found[0]
}

// told is an expression where totals may be: resolved, and then, of a group, looked through from its outside on.
func (w *twin) told(e api.Expr, sources int) string {
	text := w.expr(e, sources, true)
	if !w.grouped {
		return text
	}
	return w.keyed(e, sources)
}

func (w *twin) keyed(e api.Expr, sources int) string {
	text := w.expr(e, sources, true)
	if twinTotal(e) || e.Kind == api.EName || slices.Contains(w.group, text) {
		return w.left(text)
	}
	var kids []string
	for _, kid := range e.Kids {
		kids = append(kids, w.keyed(kid, sources))
	}
	return compose(e, kids)
}

// left is a column, or another text that stays whole: of a group a key, or, if it is a column that is left, an error.
func (w *twin) left(text string) string {
	if k := slices.Index(w.group, text); k >= 0 {
		return "key" + strconv.Itoa(k)
	}
	must(!w.grouped || strings.HasPrefix(text, "total"), api.ErrPlain)
	return text
}
