package eval

import (
	"fmt"
	"math"
	"strings"
	"testing"

	"cardindex/api"
	"cardindex/catalog"
	"cardindex/parse"
	"cardindex/resolve"
)

// some_test.go: what the tests are made of.

var null = api.Value{}

func num(n int64) api.Value   { return api.Value{Kind: api.VInt, N: n} }
func text(s string) api.Value { return api.Value{Kind: api.VText, S: s} }
func blob(s string) api.Value { return api.Value{Kind: api.VBlob, S: s} }

// list is values as a row, as binds.
func list(l ...api.Value) []api.Value { return l }

// longest is more bytes than may be. It is made once, as most tests ask for some of it.
var longest = strings.Repeat("x", api.MaxValue+1)

// xs is so many bytes.
func xs(n int) string { return longest[:n] }

// expr is an expression of a kind without N; the other calls are of one kind each.
func expr(kind api.ExprKind, s string, kids ...api.Expr) api.Expr {
	return api.Expr{Kind: kind, S: s, Kids: kids}
}

func nothing() api.Expr                           { return expr(api.ENull, "") }
func lit(n int64) api.Expr                        { return api.Expr{Kind: api.EInt, N: n} }
func litText(s string) api.Expr                   { return expr(api.EText, s) }
func litBlob(s string) api.Expr                   { return expr(api.EBlob, s) }
func bind(n int64) api.Expr                       { return api.Expr{Kind: api.EBind, N: n} }
func key(n int64) api.Expr                        { return api.Expr{Kind: api.EKey, N: n} }
func total(n int64) api.Expr                      { return api.Expr{Kind: api.ETotal, N: n} }
func this(a int, n int64) api.Expr                { return api.Expr{Kind: api.EThis, A: a, N: n} }
func op(sign string, kids ...api.Expr) api.Expr   { return expr(api.EOp, sign, kids...) }
func call(name string, kids ...api.Expr) api.Expr { return expr(api.ECall, name, kids...) }
func cast(to string, kids ...api.Expr) api.Expr   { return expr(api.ECast, to, kids...) }
func is(n int64, kids ...api.Expr) api.Expr       { return api.Expr{Kind: api.EIs, N: n, Kids: kids} }
func in(n int64, kids ...api.Expr) api.Expr       { return api.Expr{Kind: api.EIn, N: n, Kids: kids} }

// over is an expression that is ErrOver, long one that is ErrLong.
func over() api.Expr { return op("+", lit(1), lit(math.MaxInt64)) }
func long() api.Expr { return op("||", litText("x"), litText(xs(api.MaxValue))) }

// theBase is t (a, b) and u (c).
var theBase = made("create table t (a, b)", "create table u (c)")

func made(texts ...string) api.Schema {
	s := api.Schema{Version: 1, Next: 1}
	for _, text := range texts {
		x, _ := parse.Parse(text)
		told, err := catalog.Apply(s, x)
		if err != api.OK {
			panic(fmt.Sprint(text, err))
		}
		s = told
	}
	return s
}

// resolved is the expressions of a text, of t (the source 0) and u (1): what is told, and what is asked.
func resolved(text string) ([]api.Expr, bool) {
	x, f := parse.Parse("select " + text + " from t, u")
	if f.Err != api.OK {
		return nil, false
	}
	r, err := resolve.Resolve(theBase, x)
	if err != api.OK {
		return nil, false
	}
	return r.Query[0].Items, true
}

// said is the one expression that a text says.
func said(text string) api.Expr {
	all, right := resolved(text)
	if !right || len(all) != 1 {
		panic(text)
	}
	return all[0]
}

// some is what most expressions are computed of.
func some() api.Env {
	return api.Env{
		Rows:   [][]api.Value{list(num(4), null), list(text("ab"))},
		Keys:   list(num(7), text("k")),
		Totals: list(num(8), null),
		Binds:  list(num(9), blob("\x00b"), text("-5")),
	}
}

// tells asks for the value of e, whether it is true, and that nothing is wrong.
func tells(t *testing.T, e api.Expr, x api.Env, want api.Value) {
	t.Helper()
	holds(t, e, x, want, api.OK)
}

// fails asks for the error of e.
func fails(t *testing.T, e api.Expr, x api.Env, want api.Errno) {
	t.Helper()
	holds(t, e, x, null, want)
}

func holds(t *testing.T, e api.Expr, x api.Env, want api.Value, wantErr api.Errno) {
	t.Helper()
	if v, err := Eval(e, x); v != want || err != wantErr {
		t.Errorf("%s: %s, error %d, not %s, error %d", spell(e), short(v), err, short(want), wantErr)
	}
	if yes, err := True(e, x); yes != isTrue(want) || err != wantErr {
		t.Errorf("%s is true: %v, error %d, not error %d", spell(e), yes, err, wantErr)
	}
}

// isTrue says of ordinary values whether they are true: those that begin with a digit other than 0, perhaps behind a blank and a sign.
func isTrue(v api.Value) bool {
	digits := strings.TrimLeft(strings.TrimPrefix(strings.TrimPrefix(v.S, " "), "-"), "0")
	return v.Kind == api.VInt && v.N != 0 || (v.Kind == api.VText || v.Kind == api.VBlob) && digits != "" && digits[0] >= '1' && digits[0] <= '9'
}

// short is a value as it is told where a test fails.
func short(v api.Value) string {
	if len(v.S) > 40 {
		v.S = v.S[:40] + ".."
	}
	return fmt.Sprintf("%d:%d:%q", v.Kind, v.N, v.S)
}

// spell is an expression as it is told where a test fails.
func spell(e api.Expr) string {
	var kids []string
	for i, kid := range e.Kids {
		if i == 20 {
			kids = append(kids, "..")
			break
		}
		kids = append(kids, spell(kid))
	}
	s := fmt.Sprintf("{%d %.40q N %d A %d: %s}", e.Kind, e.S, e.N, e.A, strings.Join(kids, " "))
	return s[:min(len(s), 2000)]
}

// rightValues is NULL, numbers, texts and blobs.
func rightValues() []api.Value {
	l := list(null)
	for _, n := range []int64{math.MinInt64, -7, -1, 0, 1, 2, 10, math.MaxInt64 - 1, math.MaxInt64} {
		l = append(l, num(n))
	}
	for _, s := range []string{"", "0", "1", "a", "A", "ab", " -7", "9223372036854775807", "\x00", "%", xs(api.MaxValue)} {
		l = append(l, text(s), blob(s))
	}
	return l
}

// wrongValues is such as layer 2 says are none.
func wrongValues() []api.Value {
	return list(api.Value{Kind: 4}, api.Value{Kind: 255, N: 1, S: "1"}, api.Value{N: 1}, api.Value{S: "a"}, api.Value{Kind: api.VInt, N: 3, S: "a"},
		api.Value{Kind: api.VText, N: 1}, api.Value{Kind: api.VBlob, N: -1, S: "1"}, text(xs(api.MaxValue+1)), blob(xs(api.MaxValue+1)))
}

// chance is a row of numbers that is always the same one.
type chance uint64

func newChance(seed uint64) *chance {
	c := chance(seed*2862933555777941757 + 3037000493)
	return &c
}

// below is a number from 0 up to n, n not among them.
func (c *chance) below(n int) int {
	*c = *c*6364136223846793005 + 1442695040888963407
	return int(uint64(*c)>>33) % n
}

// one: does it come about, as it does once of so many times?
func (c *chance) one(of int) bool { return c.below(of) == 0 }

// oneOf is one of a list.
func oneOf[T any](c *chance, list ...T) T { return list[c.below(len(list))] }
