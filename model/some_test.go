package model

import (
	"fmt"
	"strings"
	"testing"

	"cardindex/api"
	"cardindex/catalog"
	"cardindex/parse"
	"cardindex/resolve"
	"cardindex/value"
)

// some_test.go: what the tests are made of.

var null = api.Value{}

func num(n int64) api.Value   { return api.Value{Kind: api.VInt, N: n} }
func text(s string) api.Value { return api.Value{Kind: api.VText, S: s} }
func blob(s string) api.Value { return api.Value{Kind: api.VBlob, S: s} }

// list is values as a row, as binds.
func list(l ...api.Value) []api.Value { return l }

// row is a row of a table.
func row(id int, l ...api.Value) api.Row { return api.Row{Id: id, Vals: l} }

// longest is more bytes than may be. It is made once, as many tests ask for some of it.
var longest = strings.Repeat("x", api.MaxValue+1)

// xs is so many bytes.
func xs(n int) string { return longest[:n] }

// base is a schema and its rows, as statements have made them.
type base struct {
	s api.Schema
	d api.Data
}

// made is what statements make; panics, if one is refused.
func made(texts ...string) *base {
	b := &base{s: api.Schema{Version: 1, Next: 1}}
	for _, text := range texts {
		r := b.said(text)
		var err api.Errno
		if r.Kind <= api.SDelete {
			b.d, _, err = Change(b.s, b.d, r, nil)
		} else {
			b.s, err = catalog.Apply(b.s, r.Stmt)
			b.d.Rows = append(b.d.Rows, make([][]api.Row, len(b.s.Tables)-len(b.d.Rows))...)
		}
		if err != api.OK {
			panic(fmt.Sprint(text, err))
		}
	}
	return b
}

// resolved is a statement of a text; false, if it is none of this schema.
func (b *base) resolved(text string) (api.Res, bool) {
	x, f := parse.Parse(text)
	if f.Err != api.OK {
		return api.Res{}, false
	}
	r, err := resolve.Resolve(b.s, x)
	return r, err == api.OK
}

// said is the statement of a text; panics, if it is none.
func (b *base) said(text string) api.Res {
	r, right := b.resolved(text)
	if !right {
		panic(text)
	}
	return r
}

// query is the query of a text.
func (b *base) query(text string) api.Query { return b.said(text).Query[0] }

// ask is what a query tells, shown.
func (b *base) ask(q api.Query, binds ...api.Value) string {
	told, err := Query(b.s, b.d, q, binds)
	if err != api.OK {
		return fmt.Sprintf("error %d", err)
	}
	return showList(told)
}

// tells asks what a query of a text tells.
func (b *base) tells(t *testing.T, text, want string, binds ...api.Value) {
	t.Helper()
	b.says(t, text, b.query(text), want, binds...)
}

// says asks what a query tells.
func (b *base) says(t *testing.T, what string, q api.Query, want string, binds ...api.Value) {
	t.Helper()
	if got := b.ask(q, binds...); got != want {
		t.Errorf("%s: %s, not %s", what, got, want)
	}
}

// admits asks whether a query of a text may tell something.
func (b *base) admits(t *testing.T, text string, want bool, got ...[]api.Value) {
	t.Helper()
	if is := Admits(b.s, b.d, b.query(text), nil, got); is != want {
		t.Errorf("%s admits %s: %v", text, showList(got), is)
	}
}

// change is what a statement comes to, shown: the rows of its table and how many; behind an error the rows have to be as they were.
func (b *base) change(t *testing.T, r api.Res, binds ...api.Value) string {
	t.Helper()
	ahead := showData(b.d)
	told, n, err := Change(b.s, b.d, r, binds)
	if showData(b.d) != ahead {
		t.Errorf("what is handed in is changed")
	}
	if err != api.OK {
		if showData(told) != ahead || n != 0 {
			t.Errorf("beside error %d: %d, %s, not %s", err, n, showData(told), ahead)
		}
		return fmt.Sprintf("error %d", err)
	}
	at := placeOf(b.s, r.Table.Name)
	for other := range told.Rows {
		if other != at && showRows(told.Rows[other]) != showRows(b.d.Rows[other]) {
			t.Errorf("the table %d is changed: %s", other, showRows(told.Rows[other]))
		}
	}
	return fmt.Sprintf("%d: %s", n, showRows(told.Rows[at]))
}

// comes asks what a statement of a text comes to.
func (b *base) comes(t *testing.T, text, want string, binds ...api.Value) {
	t.Helper()
	b.does(t, text, b.said(text), want, binds...)
}

// does asks what a statement comes to.
func (b *base) does(t *testing.T, what string, r api.Res, want string, binds ...api.Value) {
	t.Helper()
	if got := b.change(t, r, binds...); got != want {
		t.Errorf("%s: %s, not %s", what, got, want)
	}
}

// show is a value as it is told where a test fails.
func show(v api.Value) string {
	if len(v.S) > 40 {
		return fmt.Sprintf("%d:%d:%.10q..%d", v.Kind, v.N, v.S, len(v.S))
	}
	if !value.Right(v) {
		return fmt.Sprintf("{%d %d %q}", v.Kind, v.N, v.S)
	}
	return value.Show(v)
}

func showAll(l []api.Value) string {
	var all []string
	for _, v := range l {
		all = append(all, show(v))
	}
	return strings.Join(all, " ")
}

func showList(l [][]api.Value) string {
	var all []string
	for _, vals := range l {
		all = append(all, showAll(vals))
	}
	return strings.Join(all, "; ")
}

func showRows(rows []api.Row) string {
	var all []string
	for _, r := range rows {
		all = append(all, fmt.Sprintf("%d| %s", r.Id, showAll(r.Vals)))
	}
	return strings.Join(all, "; ")
}

func showData(d api.Data) string {
	var all []string
	for _, rows := range d.Rows {
		all = append(all, showRows(rows))
	}
	return strings.Join(all, " / ")
}

// this, key, sum, lit, bind and op are expressions of one kind each.
func this(a int, n int64) api.Expr { return api.Expr{Kind: api.EThis, A: a, N: n} }
func key(n int64) api.Expr         { return api.Expr{Kind: api.EKey, N: n} }
func sum(n int64) api.Expr         { return api.Expr{Kind: api.ETotal, N: n} }
func lit(n int64) api.Expr         { return api.Expr{Kind: api.EInt, N: n} }
func bind(n int64) api.Expr        { return api.Expr{Kind: api.EBind, N: n} }
func op(sign string, kids ...api.Expr) api.Expr {
	return api.Expr{Kind: api.EOp, S: sign, Kids: kids}
}

// over is an expression that is ErrOver, none one that is ErrExpr, strange one that is ErrFunc.
func over() api.Expr    { return op("+", lit(1), lit(1<<63-1)) }
func none() api.Expr    { return api.Expr{Kind: api.EStar} }
func strange() api.Expr { return api.Expr{Kind: api.ECall, S: "strange"} }

// overIf is ErrOver, longIf is ErrLong where the expression is not 0 or NULL; else 0, or NULL.
func overIf(e api.Expr) api.Expr { return op("*", op("*", e, lit(1<<62)), lit(2)) }
func longIf(e api.Expr) api.Expr {
	return op("*", lit(0), api.Expr{Kind: api.ECall, S: "length", Kids: []api.Expr{op("||", api.Expr{Kind: api.EText, S: xs(api.MaxValue)}, api.Expr{Kind: api.ECall, S: "substr", Kids: []api.Expr{{Kind: api.EText, S: "x"}, lit(1), op("<>", e, lit(0))}})}})
}

// wrongValues is such as layer 2 says are none.
func wrongValues() []api.Value {
	return list(api.Value{Kind: 4}, api.Value{Kind: 255, N: 1, S: "1"}, api.Value{N: 1}, api.Value{S: "a"}, api.Value{Kind: api.VInt, N: 3, S: "a"},
		api.Value{Kind: api.VText, N: 1}, api.Value{Kind: api.VBlob, N: -1, S: "1"}, text(xs(api.MaxValue+1)), blob(xs(api.MaxValue+1)))
}

// chance is a row of numbers that is always the same one.
type chance uint64

func newChance(seed uint64) *chance {
	c := chance(seed*2862933555777941757 + 3037000493)
	return &c
}

// below is a number from 0 up to n, n not among them.
func (c *chance) below(n int) int {
	*c = *c*6364136223846793005 + 1442695040888963407
	return int(uint64(*c)>>33) % n
}

// one: does it come about, as it does once of so many times?
func (c *chance) one(of int) bool { return c.below(of) == 0 }

// oneOf is one of a list.
func oneOf[T any](c *chance, list ...T) T { return list[c.below(len(list))] }
