package resolve

import (
	"fmt"
	"reflect"
	"slices"
	"strconv"
	"strings"
	"testing"

	"cardindex/api"
	"cardindex/catalog"
	"cardindex/parse"
)

// some_test.go: what the tests are made of. What a statement is resolved to they hold as a text, that says all fields which are not empty.

// said is the statement that a text says.
func said(text string) api.Stmt {
	x, f := parse.Parse(text)
	if f != (api.Fault{}) {
		panic(fmt.Sprint(text, f))
	}
	return x
}

// made is the schema that statements make.
func made(texts ...string) api.Schema {
	s := api.Schema{Version: 1, Next: 1}
	for _, text := range texts {
		told, err := catalog.Apply(s, said(text))
		if err != api.OK {
			panic(fmt.Sprint(text, err))
		}
		s = told
	}
	return s
}

// theBase is the schema of most tests. It is made once, as making it takes its time.
var theBase = made("create table t (a unique, b not null, c)", "create table u (b, d)", "create table v (e)", "create index i on t (b, c desc)")

// base is that schema, with lists of its own.
func base() api.Schema {
	s := theBase
	s.Tables, s.Indexes = slices.Clone(s.Tables), slices.Clone(s.Indexes)
	return s
}

// is asks what a statement of the base is resolved to.
func is(t *testing.T, text, want string) {
	t.Helper()
	got, err := Resolve(base(), said(text))
	if err != api.OK || spellRes(got) != want {
		t.Errorf("%s:\n%s, error %d, not\n%s", text, spellRes(got), err, want)
	}
}

// tells asks what a query of the base is resolved to.
func tells(t *testing.T, text, want string) {
	t.Helper()
	is(t, text, "select query={"+want+"}")
}

// fails asks for the error of a statement of the base.
func fails(t *testing.T, text string, want api.Errno) {
	t.Helper()
	refuses(t, base(), said(text), want)
}

// refuses asks for an error, and that nothing stands beside it.
func refuses(t *testing.T, s api.Schema, x api.Stmt, want api.Errno) {
	t.Helper()
	got, err := Resolve(s, x)
	if err != want || !reflect.DeepEqual(got, api.Res{}) {
		shown, _ := parse.Show(x)
		t.Errorf("%s %.200s: error %d, not %d; %s", shown, fmt.Sprintf("%+v", x), err, want, spellRes(got))
	}
}

// spellRes is a resolved statement as a text.
func spellRes(r api.Res) string {
	all := []string{kindNames()[r.Kind]}
	put := func(there bool, name, text string) {
		if there {
			all = append(all, name+"="+text)
		}
	}
	put(r.Binds != 0, "binds", strconv.Itoa(r.Binds))
	put(!reflect.DeepEqual(r.Table, api.Table{}), "table", spellTable(r.Table))
	put(len(r.Cols) > 0, "cols", strings.Trim(fmt.Sprint(r.Cols), "[]"))
	rows := ""
	for _, row := range r.Rows {
		rows += "(" + spellAll(row) + ")"
	}
	put(len(r.Rows) > 0, "rows", rows)
	put(len(r.Exprs) > 0, "exprs", spellAll(r.Exprs))
	put(len(r.Where) > 0, "where", spellAll(r.Where))
	for _, q := range r.Query {
		put(true, "query", "{"+spellQuery(q)+"}")
	}
	put(!reflect.DeepEqual(r.Stmt, api.Stmt{}), "stmt", spellStmt(r.Stmt))
	return strings.Join(all, " ")
}

func kindNames() map[api.StmtKind]string {
	return map[api.StmtKind]string{0: "nothing", api.SSelect: "select", api.SInsert: "insert", api.SUpdate: "update", api.SDelete: "delete", api.STable: "table", api.SIndex: "index", api.SDropT: "dropt", api.SDropI: "dropi", api.SBegin: "begin", api.SCommit: "commit", api.SRollback: "rollback"}
}

// spellTable is a table's name, if it is wholly that one of the base; else all of it.
func spellTable(t api.Table) string {
	if want, there := catalog.Table(theBase, t.Name); there && reflect.DeepEqual(t, want) {
		return t.Name
	}
	return fmt.Sprintf("%+v", t)
}

func spellStmt(x api.Stmt) string {
	text, err := parse.Show(x)
	if err != api.OK {
		return fmt.Sprintf("%+v", x)
	}
	return text
}

func spellQuery(q api.Query) string {
	var all []string
	put := func(there bool, texts ...string) {
		if there {
			all = append(all, texts...)
		}
	}
	put(q.Distinct, "distinct")
	var items []string
	for i, e := range q.Items {
		name := "no name"
		if i < len(q.Names) {
			name = q.Names[i]
		}
		items = append(items, name+":"+spell(e))
	}
	put(true, strings.Join(items, ", "))
	put(len(q.Names) != len(q.Items), "names "+strings.Join(q.Names, ","))
	var from []string
	for _, t := range q.From {
		from = append(from, spellTable(t))
	}
	put(len(from) > 0, "from "+strings.Join(from, " "))
	put(len(q.Where) > 0, "where "+spellAll(q.Where))
	put(q.Grouped, "grouped")
	put(len(q.Group) > 0, "by "+spellAll(q.Group))
	for _, total := range q.Totals {
		put(true, spellTotal(total.Func, total.Distinct, spellAll(total.Args)))
	}
	put(len(q.Having) > 0, "having "+spellAll(q.Having))
	var order []string
	for _, k := range q.Order {
		order = append(order, spell(k.Expr)+map[bool]string{true: " desc"}[k.Desc])
	}
	put(len(order) > 0, "order "+strings.Join(order, ", "))
	put(len(q.Limit) > 0, "limit "+spellAll(q.Limit))
	put(len(q.Offset) > 0, "offset "+spellAll(q.Offset))
	return strings.Join(all, " ")
}

func spellTotal(name string, distinct bool, of string) string {
	return "<" + name + map[bool]string{true: " distinct"}[distinct] + " " + of + ">"
}

func spellAll(list []api.Expr) string {
	var all []string
	for _, e := range list {
		all = append(all, spell(e))
	}
	return strings.Join(all, ", ")
}

// spell is an expression as a text: of what its kind has, and, behind a !, of all else that it has.
func spell(e api.Expr) string {
	var kids []string
	for _, kid := range e.Kids {
		kids = append(kids, spell(kid))
	}
	return compose(e, kids)
}

// compose is the text of an expression of its kids' texts.
func compose(e api.Expr, kids []string) string {
	list := strings.Join(kids, ", ")
	n := strconv.FormatInt(e.N, 10)
	rest := e
	rest.Kind, rest.Kids = 0, nil
	text := ""
	switch e.Kind {
	case api.ENull:
		text = "null"
	case api.EInt:
		text, rest.N = n, 0
	case api.EText:
		text, rest.S = strconv.Quote(e.S), ""
	case api.EBlob:
		text, rest.S = "x"+strconv.Quote(e.S), ""
	case api.EBind:
		text, rest.N = "?"+n, 0
	case api.EOp:
		text, rest.S = "("+strings.Join(append([]string{e.S}, kids...), " ")+")", ""
		if len(kids) == 2 {
			text = "(" + kids[0] + " " + e.S + " " + kids[1] + ")"
		}
		list = ""
	case api.EIs, api.EIn:
		text, rest.N = map[api.ExprKind]string{api.EIs: "is", api.EIn: "in"}[e.Kind]+n+"("+list+")", 0
		list = ""
	case api.ECall, api.ECast:
		text, rest.S = map[api.ExprKind]string{api.ECall: "", api.ECast: "cast "}[e.Kind]+e.S+"("+list+")", ""
		list = ""
	case api.EThis:
		text, rest.N, rest.A = strconv.Itoa(e.A)+"."+n, 0, 0
	case api.EKey:
		text, rest.N = "key"+n, 0
	case api.ETotal:
		text, rest.N = "total"+n, 0
	default:
		text = "kind" + strconv.Itoa(int(e.Kind))
	}
	if !reflect.DeepEqual(rest, api.Expr{}) || list != "" {
		text += fmt.Sprintf("!%+v%s", rest, list)
	}
	return text
}

// chance is a row of numbers that is always the same one.
type chance uint64

func newChance(seed uint64) *chance {
	c := chance(seed*2862933555777941757 + 3037000493)
	return &c
}

// below is a number from 0 up to n, n not among them.
func (c *chance) below(n int) int {
	*c = *c*6364136223846793005 + 1442695040888963407
	return int(uint64(*c)>>33) % n
}

// one: does it come about, as it does once of so many times?
func (c *chance) one(of int) bool {
	return c.below(of) == 0
}

// oneOf is one of a list.
func oneOf[T any](c *chance, list ...T) T {
	return list[c.below(len(list))]
}
