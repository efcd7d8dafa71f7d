package parse

import (
	"reflect"
	"slices"
	"strings"
	"testing"

	"cardindex/api"
)

// some_test.go: what the tests are made of.

// Short forms of expressions.
var (
	null = api.Expr{Kind: api.ENull}
	star = api.Expr{Kind: api.EStar}
	a    = name("a")
	b    = name("b")
	c    = name("c")
	one  = number(1)
	two  = number(2)
)

func name(s string) api.Expr          { return api.Expr{Kind: api.EName, S: s} }
func nameOf(t, s string) api.Expr     { return api.Expr{Kind: api.EName, T: t, S: s} }
func number(n int64) api.Expr         { return api.Expr{Kind: api.EInt, N: n} }
func text(s string) api.Expr          { return api.Expr{Kind: api.EText, S: s} }
func blob(s string) api.Expr          { return api.Expr{Kind: api.EBlob, S: s} }
func bind(n int64) api.Expr           { return api.Expr{Kind: api.EBind, N: n} }
func is(n int64, e api.Expr) api.Expr { return api.Expr{Kind: api.EIs, N: n, Kids: list1(e)} }
func list1(all ...api.Expr) []api.Expr {
	return all
}
func in(n int64, kids ...api.Expr) api.Expr {
	return api.Expr{Kind: api.EIn, N: n, Kids: kids}
}
func call(s string, n int64, kids ...api.Expr) api.Expr {
	return api.Expr{Kind: api.ECall, S: s, N: n, Kids: kids}
}
func cast(e api.Expr, to string) api.Expr {
	return api.Expr{Kind: api.ECast, S: to, Kids: list1(e)}
}

// items is a query's list of expressions that are called nothing.
func items(all ...api.Expr) []api.Item {
	var told []api.Item
	for _, e := range all {
		told = append(told, api.Item{Expr: e})
	}
	return told
}

// choose is the statement of a query.
func choose(q api.Select) api.Stmt {
	return api.Stmt{Kind: api.SSelect, Query: []api.Select{q}}
}

// tell is the statement that selects expressions, from nothing.
func tell(all ...api.Expr) api.Stmt {
	return choose(api.Select{Items: items(all...)})
}

// nested puts what make makes around an expression, so often.
func nested(e api.Expr, often int, make func(e api.Expr) api.Expr) api.Expr {
	for range often {
		e = make(e)
	}
	return e
}

// many is an expression, so often.
func many(often int, e api.Expr) []api.Expr {
	return slices.Repeat(list1(e), often)
}

// plain is a statement with each empty list as none, in memory of its own.
func plain(s api.Stmt) api.Stmt {
	return plainValue(reflect.ValueOf(s)).Interface().(api.Stmt)
}

func plainValue(v reflect.Value) reflect.Value {
	told := reflect.New(v.Type()).Elem()
	switch v.Kind() {
	case reflect.Struct:
		for i := range v.NumField() {
			told.Field(i).Set(plainValue(v.Field(i)))
		}
	case reflect.Slice:
		for i := range v.Len() {
			told.Set(reflect.Append(told, plainValue(v.Index(i))))
		}
	case reflect.String:
		told.SetString(strings.Clone(v.String()))
	default:
		told.Set(v)
	}
	return told
}

// same: are two statements the same? (R6: an empty list and none are.)
func same(s, other api.Stmt) bool {
	return reflect.DeepEqual(plain(s), plain(other))
}

// says holds what a text says against what is wanted.
func says(t *testing.T, text string, want api.Stmt) {
	t.Helper()
	got, f := Parse(text)
	if f != (api.Fault{}) || !same(got, want) {
		t.Fatalf("%q:\n%+v, fault %v, not\n%+v", short(text), got, f, want)
	}
}

// fails holds what is wrong with a text against what is wanted.
func fails(t *testing.T, text string, err api.Errno, at int) {
	t.Helper()
	got, f := Parse(text)
	if f != (api.Fault{Err: err, At: at}) || !reflect.DeepEqual(got, api.Stmt{}) {
		t.Fatalf("%q: fault %v, not %d at %d; %+v", short(text), f, err, at, got)
	}
}

// isShown holds what a statement is shown as against what is wanted.
func isShown(t *testing.T, s api.Stmt, want string) {
	t.Helper()
	got, err := Show(s)
	if err != api.OK || got != want {
		t.Fatalf("%q, error %d, not %q", short(got), err, short(want))
	}
}

// isWrong asks whether a statement is not right, and not shown.
func isWrong(t *testing.T, what string, s api.Stmt) {
	t.Helper()
	got, err := Show(s)
	if Right(s) || err != api.ErrTree || got != "" {
		t.Fatalf("%s: right %v, shown %q, error %d", what, Right(s), short(got), err)
	}
}

// isRight asks whether a statement is right.
func isRight(t *testing.T, what string, s api.Stmt) {
	t.Helper()
	if !Right(s) {
		t.Fatalf("%s: not right", what)
	}
}

// short is a text, or where it is long its begin and end.
func short(s string) string {
	if len(s) <= 400 {
		return s
	}
	return s[:200] + ".." + s[len(s)-200:]
}

// chance is a row of numbers that is always the same one.
type chance uint64

func newChance(seed uint64) *chance {
	c := chance(seed*2862933555777941757 + 3037000493)
	return &c
}

// below is a number from 0 up to n, n not among them.
func (c *chance) below(n int) int {
	*c = *c*6364136223846793005 + 1442695040888963407
	return int(uint64(*c)>>33) % n
}

func (c *chance) is() bool {
	return c.below(2) == 0
}

// of is one of a list.
func of[T any](c *chance, list ...T) T {
	return list[c.below(len(list))]
}

// some is a list of from least to most that make makes.
func some[T any](c *chance, least, most int, make func() T) []T {
	var told []T
	for range least + c.below(most-least+1) {
		told = append(told, make())
	}
	return told
}
