package eval

import (
	"math"
	"slices"
	"testing"

	"cardindex/api"
)

// P13.2: what is safe by itself.
func TestSafeByItself(t *testing.T) {
	for _, e := range []api.Expr{
		nothing(), lit(0), lit(math.MinInt64), litText(""), litText(xs(api.MaxValue)), litBlob(""), litBlob(xs(api.MaxValue)),
		bind(0), bind(-1), bind(math.MaxInt64), key(0), key(-1), total(0), total(7), this(0, 0), this(-1, -1), this(99, math.MaxInt64),
		{Kind: api.EInt, S: xs(api.MaxValue + 1), T: "t", A: 3}, {Kind: api.ENull, N: 7}, {Kind: api.EText, T: xs(api.MaxValue + 1), N: 9},
	} {
		isSafeOrNot(t, e, true)
	}
	for _, e := range []api.Expr{
		litText(xs(api.MaxValue + 1)), litBlob(xs(api.MaxValue + 1)), {}, {Kind: api.EName, S: "a"}, {Kind: api.EStar}, {Kind: 16}, {Kind: 255}, {Kind: 16, Kids: []api.Expr{lit(1)}},
	} {
		isSafeOrNot(t, e, false)
	}
}

// isSafeOrNot asks whether e is safe, and all that is safe just if e is.
func isSafeOrNot(t *testing.T, e api.Expr, want bool) {
	t.Helper()
	for _, x := range []api.Expr{e, op("=", lit(1), e), op("or", e, lit(1)), op("not", e), is(0, e), in(1, e, lit(1)), in(0, lit(1), lit(2), e), call("typeof", e), call("coalesce", lit(1), lit(2), e), op("not", op("and", is(1, e), this(0, 1)))} {
		if Safe(x) != want {
			t.Errorf("%s is safe: %v", spell(x), !want)
		}
	}
	for _, x := range []api.Expr{op("+", lit(1), e), op("-", e), cast("int", e), call("length", e), op("not", op("||", e, lit(1))), in(0, lit(1), cast("text", e))} {
		if Safe(x) {
			t.Errorf("%s is safe", spell(x))
		}
	}
}

// P13.2: which signs are safe, of how many kids.
func TestSafeSigns(t *testing.T) {
	ofTwo := []string{"=", "<>", "<", "<=", ">", ">=", "and", "or"}
	for _, sign := range append([]string{"+", "-", "*", "/", "%", "||", "like", "not", "", "AND", "Not", "==", "!=", "= ", "xor"}, ofTwo...) {
		for kids := range 5 {
			want := kids == 2 && slices.Contains(ofTwo, sign) || kids == 1 && sign == "not"
			if e := op(sign, slices.Repeat([]api.Expr{this(0, 0)}, kids)...); Safe(e) != want {
				t.Errorf("%s is safe: %v", spell(e), !want)
			}
		}
	}
}

// P13.2: is, in are safe where they may be.
func TestSafeIsAndIn(t *testing.T) {
	for _, n := range []int64{0, 1, 2, -1, 3, 1 << 32, math.MinInt64, math.MaxInt64} {
		for kids := range 5 {
			l := slices.Repeat([]api.Expr{bind(0)}, kids)
			flag := n == 0 || n == 1
			if Safe(is(n, l...)) != (flag && kids == 1) {
				t.Errorf("is %d of %d kids", n, kids)
			}
			if Safe(in(n, l...)) != (flag && kids >= 2) {
				t.Errorf("in %d of %d kids", n, kids)
			}
		}
	}
}

// P13.2: of functions three are safe, with as many kids as they may have; a cast never is.
func TestSafeCalls(t *testing.T) {
	for _, name := range []string{"length", "upper", "lower", "abs", "typeof", "hex", "ifnull", "instr", "substr", "coalesce", "none", "", "count", "TYPEOF"} {
		for _, kids := range []int{0, 1, 2, 3, 4, api.MaxArgs - 1, api.MaxArgs, api.MaxArgs + 1} {
			want := name == "typeof" && kids == 1 || name == "ifnull" && kids == 2 || name == "coalesce" && kids >= 2 && kids <= api.MaxArgs
			e := call(name, slices.Repeat([]api.Expr{lit(1)}, kids)...)
			if Safe(e) != want {
				t.Errorf("%s of %d kids is safe: %v", name, kids, !want)
			}
			if want {
				e.N = 1 // layer 2 is not asked of that
				e.Kids[kids-1] = op("-", lit(1))
				if Safe(e) {
					t.Errorf("%s of a kid that is not safe is", name)
				}
			}
		}
	}
	for _, to := range []string{"int", "text", "blob", ""} {
		for kids := range 3 {
			if Safe(cast(to, slices.Repeat([]api.Expr{lit(1)}, kids)...)) {
				t.Errorf("cast as %q of %d kids is safe", to, kids)
			}
		}
	}
}

// P13.2: one that is not safe, at whatever place, makes all not safe.
func TestSafeKids(t *testing.T) {
	for _, text := range []string{"a = b", "a <> b and c < ? or a >= 1", "not (a is null)", "a in (b, c, null)", "coalesce(a, typeof(b), ifnull(c, 'x')) <= x'00'", "1 not in (a, 2 > 3)", "(a is not null) = (b in (1, 2))"} {
		if !Safe(said(text)) {
			t.Errorf("%s is not safe", text)
		}
	}
	for _, text := range []string{"a + b", "-a", "a like 'x'", "a || b", "a and b + 1", "not (a = -b)", "a in (1, 2, length(b))", "(a * 1) in (1)", "(a % 2) is null", "coalesce(a, hex(b))", "typeof(abs(a))", "cast(a as int)", "ifnull(substr(c, 1), 1)", "instr(a, b) = 1", "upper(a) = lower(b)"} {
		if Safe(said(text)) {
			t.Errorf("%s is safe", text)
		}
	}
}

// P13.2, P13.3: a kind that needs no kids is safe with such as are; with others it has their errors.
func TestSafeKidsThatAreNotNeeded(t *testing.T) {
	for _, e := range []api.Expr{nothing(), lit(1), litText("a"), litBlob("b"), bind(0), key(0), total(0), this(0, 0)} {
		e.Kids = []api.Expr{this(1, 0), op("=", lit(1), nothing())}
		isSafeOrNot(t, e, true)
		e.Kids = []api.Expr{this(1, 0), over()}
		isSafeOrNot(t, e, false)
	}
}

// P13.2: which sources there are, rising, each once.
func TestSources(t *testing.T) {
	for _, c := range []struct {
		e    api.Expr
		want []int
	}{
		{nothing(), nil}, {lit(3), nil}, {bind(1), nil}, {key(2), nil}, {total(3), nil}, {litText("a"), nil}, {api.Expr{}, nil}, {op("+", lit(1), key(1)), nil},
		{api.Expr{Kind: api.EInt, A: 5}, nil}, {api.Expr{Kind: api.EKey, A: 5}, nil}, {api.Expr{Kind: api.EName, A: 5}, nil},
		{this(0, 0), []int{0}}, {this(4, 1), []int{4}}, {this(-2, 1), []int{-2}}, {this(math.MaxInt, -1), []int{math.MaxInt}},
		{op("+", this(2, 0), op("-", this(0, 1), this(2, 3))), []int{0, 2}}, {op("=", this(1, 0), this(1, 1)), []int{1}}, {op("=", this(1, 0), this(0, 0)), []int{0, 1}},
		{in(0, this(5, 0), this(3, 0), this(4, 0), this(3, 1), lit(1), this(-1, 0), this(5, 2)), []int{-1, 3, 4, 5}},
		{is(1, call("coalesce", this(2, 2), cast("int", this(1, 1)))), []int{1, 2}}, {op("not", op("not", this(10, 0))), []int{10}},
		{op("", this(1, 0), this(0, 0), this(7, 0)), []int{0, 1, 7}}, {expr(api.EStar, "", this(3, 0)), []int{3}}, {api.Expr{Kind: api.EThis, A: 2, Kids: []api.Expr{this(1, 0)}}, []int{1, 2}}, {api.Expr{Kind: api.EInt, Kids: []api.Expr{this(1, 0)}}, []int{1}},
		{said("a + b > 3 and a in (1, b)"), []int{0}}, {said("c is null or a = 1"), []int{0, 1}}, {said("length(c) + c"), []int{1}}, {said("? + 1"), nil},
	} {
		if got := Sources(c.e); !slices.Equal(got, c.want) {
			t.Errorf("%s: %v, not %v", spell(c.e), got, c.want)
		}
	}
}

// P13.2: all orders of a few sources tell the same.
func TestSourcesRise(t *testing.T) {
	want := []int{0, 1, 2, 3}
	for n := range 4 * 4 * 4 * 4 {
		l := []int{n % 4, n / 4 % 4, n / 16 % 4, n / 64}
		var kids []api.Expr
		for i, a := range l {
			kids = append(kids, this(a, int64(i)))
		}
		slices.Sort(l)
		if got := Sources(in(0, kids...)); !slices.Equal(got, slices.Compact(l)) {
			t.Errorf("%v: %v", kids, got)
		}
		if got := Sources(op("and", in(1, kids...), in(0, this(3, 0), this(2, 0), this(1, 0), this(0, 0)))); !slices.Equal(got, want) {
			t.Errorf("%v, and all: %v", kids, got)
		}
	}
}
