package eval

import (
	"math"
	"slices"
	"testing"

	"cardindex/api"
	"cardindex/value"
)

// P13.1: what an expression says by itself.
func TestLiterals(t *testing.T) {
	x := some()
	tells(t, nothing(), x, null)
	for _, n := range []int64{math.MinInt64, -1, 0, 1, 12, math.MaxInt64} {
		tells(t, lit(n), x, num(n))
	}
	for _, s := range []string{"", "a", "12", "-3x", "0", "\x00\xff", "it's", xs(api.MaxValue)} {
		tells(t, litText(s), x, text(s))
		tells(t, litBlob(s), x, blob(s))
	}
}

// P13.1: what a kind does not name is not asked.
func TestWhatAKindDoesNotName(t *testing.T) {
	x := some()
	for _, c := range []struct {
		e    api.Expr
		want api.Value
	}{
		{api.Expr{Kind: api.ENull, S: "a", T: "b", N: 1, A: 2}, null},
		{api.Expr{Kind: api.EInt, S: "a", T: "b", N: 1, A: 2}, num(1)}, {api.Expr{Kind: api.EInt, S: xs(api.MaxValue + 1), N: 1}, num(1)},
		{api.Expr{Kind: api.EText, S: "a", T: "b", N: 1, A: 2}, text("a")}, {api.Expr{Kind: api.EBlob, S: "a", T: xs(api.MaxValue + 1), N: -1, A: -2}, blob("a")},
		{api.Expr{Kind: api.EBind, S: "a", T: "b", N: 2, A: 7}, text("-5")}, {api.Expr{Kind: api.EKey, S: "a", N: 1, A: 7}, text("k")}, {api.Expr{Kind: api.ETotal, S: "a", A: -7}, num(8)},
		{api.Expr{Kind: api.EThis, S: "a", T: "b", A: 1}, text("ab")},
		{api.Expr{Kind: api.EOp, S: "-", T: "b", N: 3, A: 2, Kids: []api.Expr{lit(1)}}, num(-1)},
		{api.Expr{Kind: api.EIs, S: "a", T: "b", N: 1, A: 2, Kids: []api.Expr{lit(1)}}, num(0)},
		{api.Expr{Kind: api.EIn, S: "a", T: "b", N: 1, A: 2, Kids: []api.Expr{lit(1), lit(2)}}, num(1)},
		{api.Expr{Kind: api.ECall, S: "length", T: "b", N: 7, A: 2, Kids: []api.Expr{lit(123)}}, num(3)}, {api.Expr{Kind: api.ECall, S: "abs", N: 1, Kids: []api.Expr{lit(-2)}}, num(2)},
		{api.Expr{Kind: api.ECast, S: "text", T: "b", N: 2, A: 2, Kids: []api.Expr{lit(1)}}, text("1")},
	} {
		tells(t, c.e, x, c.want)
	}
}

// P13.1: binds, keys, totals and rows are told by their places, each of its own list; NULL, where there is none.
func TestPlaces(t *testing.T) {
	x := some()
	for n, want := range list(num(9), blob("\x00b"), text("-5"), null, null) {
		tells(t, bind(int64(n)), x, want)
	}
	for n, want := range list(num(7), text("k"), null, null) {
		tells(t, key(int64(n)), x, want)
	}
	for n, want := range list(num(8), null, null) {
		tells(t, total(int64(n)), x, want)
	}
	for a, row := range [][]api.Value{list(num(4), null, null, null), list(text("ab"), null, null), list(null, null), list(null)} {
		for n, want := range row {
			tells(t, this(a, int64(n)), x, want)
		}
	}
	for _, far := range []int64{-1, -2, math.MinInt64, math.MaxInt64, 1 << 32, -1 << 32, math.MinInt64 + 1, 5} {
		for _, e := range []api.Expr{bind(far), key(far), total(far), this(0, far), this(1, far), this(int(far), 0), this(int(far), far)} {
			tells(t, e, x, null)
			tells(t, e, api.Env{}, null)
		}
	}
	tells(t, this(3, 0), api.Env{}, null)
	tells(t, this(0, 0), api.Env{Rows: [][]api.Value{nil, list(num(1))}}, null)
	tells(t, this(1, 0), api.Env{Rows: [][]api.Value{nil, list(num(1))}}, num(1))
}

// P13.1: what the spare room of a list has is not there.
func TestSpareRoomIsNotThere(t *testing.T) {
	spare := list(num(1), num(2), num(3))[:1]
	rows := [][]api.Value{spare, spare, spare}[:1]
	x := api.Env{Rows: rows, Keys: spare, Totals: spare, Binds: spare}
	for _, e := range []api.Expr{bind(1), key(1), total(2), this(0, 1), this(1, 0), this(2, 0)} {
		tells(t, e, x, null)
	}
}

// P13.1: an operation is what layer 2 says of it: each sign, of all pairs of values.
func TestOperations(t *testing.T) {
	signs := []string{"+", "-", "*", "/", "%", "||", "=", "<>", "<", "<=", ">", ">=", "and", "or", "like", "not", "", "AND", "&", "xor"}
	values := append(rightValues(), wrongValues()...)
	for _, sign := range signs {
		for _, a := range values {
			x := api.Env{Binds: list(a, null)}
			want, wantErr := value.One(sign, a)
			if v, err := Eval(op(sign, bind(0)), x); v != want || err != wantErr {
				t.Errorf("%s %s: %s, error %d", sign, short(a), short(v), err)
			}
			for _, b := range values {
				x.Binds[1] = b
				want, wantErr := value.Op(sign, a, b)
				if v, err := Eval(op(sign, bind(0), bind(1)), x); v != want || err != wantErr {
					t.Errorf("%s %s %s: %s, error %d", short(a), sign, short(b), short(v), err)
				}
			}
		}
	}
}

// P13.1: is null and is not null tell 1 or 0 of whatever there is.
func TestIs(t *testing.T) {
	for _, v := range append(rightValues(), wrongValues()...) {
		x := api.Env{Binds: list(v)}
		yes, no := num(0), num(1)
		if v.Kind == api.VNull {
			yes, no = no, yes
		}
		tells(t, is(1, bind(0)), x, yes)
		tells(t, is(0, bind(0)), x, no)
	}
	tells(t, said("null is null"), some(), num(1))
	tells(t, said("null is not null"), some(), num(0))
	tells(t, said("b is null and a is not null"), some(), num(1))
	fails(t, is(1, over()), some(), api.ErrOver)
}

// P13.1: in tells 1, NULL or 0; not in the other way round.
func TestIn(t *testing.T) {
	x := some()
	for _, c := range []struct {
		text      string
		want, not api.Value
	}{
		{"(2, 3)", num(0), num(1)}, {"(1)", num(1), num(0)}, {"(2)", num(0), num(1)}, {"(null)", null, null},
		{"(null, 1)", num(1), num(0)}, {"(1, null)", num(1), num(0)}, {"(2, null)", null, null}, {"(null, 2)", null, null}, {"(null, 2, 1)", num(1), num(0)}, {"(2, null, 3)", null, null}, {"(1, 1)", num(1), num(0)},
		{"('1')", num(0), num(1)}, {"(x'31', '1', 1)", num(1), num(0)}, {"(2, 3, 1)", num(1), num(0)}, {"(1, 2, 3)", num(1), num(0)}, {"(2, 1, 3)", num(1), num(0)},
	} {
		tells(t, said("1 in "+c.text), x, c.want)
		tells(t, said("1 not in "+c.text), x, c.not)
		tells(t, said("null in "+c.text), x, null)
		tells(t, said("null not in "+c.text), x, null)
	}
	tells(t, said("a in (a)"), x, num(1))
	tells(t, said("c in ('ab', b)"), x, num(1))
	tells(t, said("'a' in ('A')"), x, num(0))
}

// P13.1: in has a value for each list of three, by the chapter's words said in another way.
func TestInOfAllShort(t *testing.T) {
	few := list(null, num(0), num(1), text("1"), text("0"))
	for _, first := range few {
		for _, a := range few {
			for _, b := range few {
				for _, c := range few {
					others := list(a, b, c)
					x := api.Env{Binds: append(list(first), others...)}
					want, not := num(0), num(1)
					switch {
					case first != null && slices.Contains(others, first):
						want, not = not, want
					case first == null || slices.Contains(others, null):
						want, not = null, null
					}
					tells(t, in(0, bind(0), bind(1), bind(2), bind(3)), x, want)
					tells(t, in(1, bind(0), bind(1), bind(2), bind(3)), x, not)
				}
			}
		}
	}
}

// P13.1: in asks of each of the others, also behind one that is the same: its error counts.
func TestInAsksAll(t *testing.T) {
	for _, wrong := range wrongValues() {
		x := api.Env{Binds: list(num(1), wrong)}
		for _, e := range []api.Expr{in(0, bind(0), bind(1)), in(0, bind(1), bind(0)), in(0, bind(0), bind(0), bind(1)), in(1, bind(0), bind(1), bind(0)), in(0, nothing(), nothing(), bind(1)), in(1, bind(1), nothing())} {
			fails(t, e, x, api.ErrArg)
		}
	}
	fails(t, in(0, lit(1), lit(1), over()), some(), api.ErrOver)
	fails(t, in(1, over(), lit(1)), some(), api.ErrOver)
}

// P13.1: a call is what layer 2 says of it, and of those there are not.
func TestCalls(t *testing.T) {
	x := some()
	for _, c := range []struct {
		text string
		want api.Value
	}{
		{"length(c)", num(2)}, {"upper(c)", text("AB")}, {"lower('Ab')", text("ab")}, {"abs(-a)", num(4)}, {"typeof(b)", text("null")}, {"typeof(?)", text("integer")}, {"hex(c)", text("6162")},
		{"ifnull(b, a)", num(4)}, {"instr(c, 'b')", num(2)}, {"substr(c, 2)", text("b")}, {"substr('hello', 2, 3)", text("ell")}, {"coalesce(b, null, c, a)", text("ab")}, {"length(b)", null}, {"hex(b)", text("")},
	} {
		tells(t, said(c.text), x, c.want)
	}
	for _, name := range []string{"length", "upper", "lower", "abs", "typeof", "hex", "ifnull", "instr", "substr", "coalesce", "none", "", "LENGTH", "count", "sum"} {
		for kids := range 5 {
			for _, v := range append(rightValues(), wrongValues()[:6]...) {
				binds := list(v, num(1), num(2), num(-3))
				e := call(name)
				for n := range kids {
					e.Kids = append(e.Kids, bind(int64(n)))
				}
				want, wantErr := value.Call(name, binds[:kids])
				if v, err := Eval(e, api.Env{Binds: binds}); v != want || err != wantErr {
					t.Errorf("%s: %s, error %d", spell(e), short(v), err)
				}
			}
		}
	}
	most := call("coalesce", slices.Repeat([]api.Expr{nothing()}, api.MaxArgs-1)...)
	most.Kids = append(most.Kids, lit(5))
	tells(t, most, x, num(5))
	most.Kids = append(most.Kids, lit(6))
	fails(t, most, x, api.ErrFunc)
}

// P13.1: a call that there is not is so behind its kids.
func TestNoCall(t *testing.T) {
	x := some()
	fails(t, call("none"), x, api.ErrFunc)
	fails(t, call("length"), x, api.ErrFunc)
	fails(t, call("none", lit(1)), x, api.ErrFunc)
	fails(t, call("none", over()), x, api.ErrOver)
	fails(t, call("length", lit(1), expr(api.EStar, "")), x, api.ErrExpr)
}

// P13.1: casts are those of layer 2, and no others.
func TestCasts(t *testing.T) {
	for _, v := range append(rightValues(), wrongValues()...) {
		for _, to := range []string{"int", "text", "", "blob", "INT", "integer"} {
			want, wantErr := value.Cast(to, v)
			if v, err := Eval(cast(to, bind(0)), api.Env{Binds: list(v)}); v != want || err != wantErr {
				t.Errorf("cast as %s: %s, error %d", to, short(v), err)
			}
		}
	}
	tells(t, said("cast(' -12ab' as int)"), some(), num(-12))
	tells(t, said("cast(a as text)"), some(), text("4"))
	fails(t, cast("blob", over()), some(), api.ErrOver)
}

// P13.1: what is no expression, whatever its kids are.
func TestNoExpressions(t *testing.T) {
	one, two, three := lit(1), lit(2), lit(3)
	wrong := []api.Expr{
		litText(xs(api.MaxValue + 1)), litBlob(xs(api.MaxValue + 1)),
		op("+"), op("-", one, two, three), op("not"), op("and", one, two, three, one), op(""), op("", one, two, three),
		is(1), is(0), is(1, one, two), is(0, nothing(), nothing(), nothing()), is(2, one), is(-1, one), is(math.MaxInt64, one), is(math.MinInt64, one), is(1<<32, one),
		in(0), in(1), in(0, one), in(1, nothing()), in(2, one, two), in(-1, one, two), in(math.MaxInt64, one, one), in(1<<32+1, one, one),
		cast("int"), cast("text"), cast("int", one, two), cast("text", one, two, three), cast("", one, two), cast("blob"),
		{}, {Kind: api.EName, S: "a"}, {Kind: api.EStar}, {Kind: api.EName, S: "a", T: "t"}, {Kind: 16}, {Kind: 17, N: 1}, {Kind: 255, S: "a"},
	}
	x := some()
	for _, e := range wrong {
		fails(t, e, x, api.ErrExpr)
		fails(t, op("not", e), x, api.ErrExpr)
		fails(t, in(0, one, one, e), x, api.ErrExpr)
		for i := range e.Kids {
			e.Kids[i] = over()
		}
		fails(t, e, x, api.ErrExpr)
	}
	for _, kind := range []api.ExprKind{0, api.EName, api.EStar, 16, 99, 255} {
		fails(t, expr(kind, "", over()), x, api.ErrExpr)
		fails(t, expr(kind, "+", one, two), x, api.ErrExpr)
	}
	fails(t, expr(api.EText, xs(api.MaxValue+1), over()), x, api.ErrExpr)
}

// P13.1: just these kinds are ones.
func TestKinds(t *testing.T) {
	for k := range 256 {
		kind := api.ExprKind(k)
		e := expr(kind, "", lit(1))
		want := api.ErrExpr
		switch kind {
		case api.ENull, api.EInt, api.EText, api.EBlob, api.EBind, api.EIs, api.EThis, api.ETotal, api.EKey:
			want = api.OK
		case api.EOp, api.ECast:
			want = api.ErrArg
		case api.ECall:
			want = api.ErrFunc
		case api.EIn:
			e.Kids = append(e.Kids, lit(1))
			want = api.OK
		}
		if _, err := Eval(e, some()); err != want {
			t.Errorf("kind %d: error %d, not %d", k, err, want)
		}
	}
}

// P13.1: kids are computed from left to right, ahead of what they are for, up to the first error; nothing stops earlier.
func TestOrder(t *testing.T) {
	x := some()
	star, none := expr(api.EStar, ""), call("none")
	for _, c := range []struct {
		e    api.Expr
		want api.Errno
	}{
		{op("+", over(), star), api.ErrOver}, {op("+", star, over()), api.ErrExpr}, {op("+", none, over()), api.ErrFunc}, {op("+", over(), none), api.ErrOver}, {op("||", long(), over()), api.ErrLong}, {op("||", over(), long()), api.ErrOver},
		{op("none", over(), star), api.ErrOver}, {op("none", lit(1), star), api.ErrExpr}, {op("none", lit(1), lit(2)), api.ErrArg}, {op("none", lit(1)), api.ErrArg}, {op("not", star), api.ErrExpr},
		{op("and", lit(0), over()), api.ErrOver}, {op("or", lit(1), over()), api.ErrOver}, {op("and", over(), lit(0)), api.ErrOver}, {op("=", nothing(), over()), api.ErrOver},
		{in(0, lit(1), lit(1), none, over()), api.ErrFunc}, {in(0, over(), none), api.ErrOver}, {in(0, lit(1), star, over()), api.ErrExpr},
		{call("coalesce", lit(1), over()), api.ErrOver}, {call("ifnull", lit(1), star), api.ErrExpr}, {call("coalesce", nothing(), none, over()), api.ErrFunc}, {call("typeof", over()), api.ErrOver}, {is(1, none), api.ErrFunc},
		{op("+", op("+", lit(1), none), over()), api.ErrFunc}, {op("+", op("+", over(), none), star), api.ErrOver}, {op("+", lit(1), op("+", star, over())), api.ErrExpr},
		{op("not", op("not", op("not", over()))), api.ErrOver},
	} {
		fails(t, c.e, x, c.want)
	}
}

// P13.1: that holds of kids of a kind that needs none, too: they are computed, and tell nothing else.
func TestKidsThatAreNotNeeded(t *testing.T) {
	x := some()
	for _, e := range []api.Expr{nothing(), lit(3), litText("a"), litBlob("b"), bind(0), key(1), total(0), this(1, 0), this(9, 9)} {
		want, _ := Eval(e, x)
		e.Kids = []api.Expr{lit(5), nothing()}
		tells(t, e, x, want)
		e.Kids = []api.Expr{lit(5), over(), call("none")}
		fails(t, e, x, api.ErrOver)
		e.Kids = []api.Expr{expr(api.EStar, ""), over()}
		fails(t, e, x, api.ErrExpr)
	}
}

// P13.1: of what is not right layer 2 says what it says; where it is not asked, the value is as it was handed.
func TestWrongValues(t *testing.T) {
	for _, v := range wrongValues() {
		x := api.Env{Rows: [][]api.Value{list(num(1), v)}, Keys: list(v), Totals: list(v), Binds: list(v)}
		for _, e := range []api.Expr{bind(0), key(0), total(0), this(0, 1)} {
			if got, err := Eval(e, x); got != v || err != api.OK {
				t.Errorf("%s of %s: %s, error %d", spell(e), short(v), short(got), err)
			}
			want, known := value.Truth(v)
			if yes, err := True(e, x); yes != (want && known) || err != api.OK {
				t.Errorf("%s of %s is true: %v, error %d", spell(e), short(v), yes, err)
			}
			for _, o := range []api.Expr{op("=", e, e), op("-", e), op("not", e), op("and", lit(0), e), call("typeof", e), call("ifnull", lit(1), e), cast("text", e), in(0, lit(1), e)} {
				fails(t, o, x, api.ErrArg)
			}
		}
	}
}

// P13.1: what is true is so if that is known.
func TestTrue(t *testing.T) {
	for _, c := range []struct {
		text string
		want bool
	}{
		{"1", true}, {"0", false}, {"null", false}, {"-1", true}, {"'a'", false}, {"' 2x'", true}, {"x'31'", true}, {"x'00'", false}, {"''", false},
		{"a = 4", true}, {"a = 5", false}, {"b = 4", false}, {"not (b = 4)", false}, {"b is null", true}, {"not (a = 5)", true}, {"b or 1", true}, {"b or 0", false}, {"b and 1", false}, {"c like 'A_'", true}, {"? - 9", false}, {"?", true},
	} {
		if yes, err := True(said(c.text), some()); yes != c.want || err != api.OK {
			t.Errorf("%s is true: %v, error %d", c.text, yes, err)
		}
	}
	for want, e := range map[api.Errno]api.Expr{api.ErrOver: over(), api.ErrLong: long(), api.ErrExpr: op("+"), api.ErrFunc: call("none"), api.ErrArg: op("none", lit(1))} {
		if yes, err := True(e, some()); yes || err != want {
			t.Errorf("%s is true: %v, error %d", spell(e), yes, err)
		}
	}
}

// P13.1: the chapter's examples.
func TestExamples(t *testing.T) {
	x := api.Env{Rows: [][]api.Value{list(num(math.MaxInt64), num(math.MaxInt64)), list(null)}}
	tells(t, said("2 in (1, null)"), x, null)
	tells(t, said("1 in (1, null)"), x, num(1))
	tells(t, said("2 not in (1, 3)"), x, num(1))
	tells(t, this(3, 0), api.Env{}, null)
	fails(t, said("1 + a"), x, api.ErrOver)
	fails(t, said("0 and 1 + a"), x, api.ErrOver)
	if !Safe(said("a = b")) || Safe(said("a + b")) {
		t.Error("a = b is safe, a + b is not")
	}
}

// P13.1: expressions within one another, as texts say them.
func TestTexts(t *testing.T) {
	x := some()
	for text, want := range map[string]api.Value{
		"a * 2 + ? - 7 % 4": num(14), "c || a || 'x'": text("ab4x"), "-a": num(-4), "a / 0": null, "b + 1": null, "not b": null, "not 0 and a > 3": num(1),
		"ifnull(b, a + 1) * 2 in (9, 10)": num(1), "(a in (4)) + (c in ('x'))": num(1), "substr(upper(c) || hex(c), 2, 3)": text("B61"), "cast(cast(a as text) || '1' as int) - 1": num(40),
		"a < 5 and (b or c = 'ab')": num(1), "length(typeof(b))": num(4), "(b is null) + (b is not null)": num(1),
	} {
		tells(t, said(text), x, want)
	}
}

// R1: as deep, and as wide, as may be.
func TestDeepAndWide(t *testing.T) {
	deep, wrong := lit(1), over()
	for range 60000 {
		deep, wrong = op("not", deep), op("not", wrong)
	}
	tells(t, deep, some(), num(1))
	fails(t, wrong, some(), api.ErrOver)
	if !Safe(deep) || Safe(wrong) || Sources(deep) != nil {
		t.Error("a deep one")
	}
	wide := in(1, append([]api.Expr{lit(1)}, slices.Repeat([]api.Expr{lit(2)}, 100000)...)...)
	tells(t, wide, some(), num(1))
	if !Safe(wide) || Sources(wide) != nil {
		t.Error("a wide one")
	}
}
