package value

import (
	"math"
	"math/big"
	"strings"
	"testing"

	"cardindex/api"
)

// reckoning signs, comparing signs, all signs.
var (
	reckoning = []string{"+", "-", "*", "/", "%"}
	comparing = []string{"=", "<>", "<", "<=", ">", ">="}
	signs     = append(append([]string{"and", "or", "||", "like"}, reckoning...), comparing...)
)

// want asks what came of something, and tells where it is another thing.
func want(t *testing.T, what string, got api.Value, err api.Errno, v api.Value, e api.Errno) {
	t.Helper()
	if got != v || err != e {
		t.Errorf("%s = %v, error %d; not %v, error %d", what, short(got), err, short(v), e)
	}
}

// P2.2: what signs make of two, where that is told by the chapter.
func TestOp(t *testing.T) {
	for _, c := range []struct {
		sign    string
		a, b, v api.Value
		e       api.Errno
	}{
		{"+", num(2), num(3), num(5), api.OK}, {"+", text("2x"), blob(" 3"), num(5), api.OK}, {"+", text(""), text("a"), num(0), api.OK},
		{"+", num(math.MaxInt64), num(1), null, api.ErrOver}, {"+", num(math.MaxInt64), num(0), num(math.MaxInt64), api.OK}, {"+", num(math.MinInt64), num(-1), null, api.ErrOver}, {"+", num(math.MinInt64), num(math.MaxInt64), num(-1), api.OK},
		{"+", text("99999999999999999999"), num(1), null, api.ErrOver}, {"+", text("99999999999999999999"), num(0), num(math.MaxInt64), api.OK},
		{"-", num(2), num(3), num(-1), api.OK}, {"-", num(math.MinInt64), num(1), null, api.ErrOver}, {"-", num(0), num(math.MinInt64), null, api.ErrOver}, {"-", num(-1), num(math.MinInt64), num(math.MaxInt64), api.OK}, {"-", num(math.MinInt64), num(math.MinInt64), num(0), api.OK},
		{"*", num(-3), num(4), num(-12), api.OK}, {"*", num(math.MinInt64), num(-1), null, api.ErrOver}, {"*", num(-1), num(math.MinInt64), null, api.ErrOver}, {"*", num(math.MinInt64), num(1), num(math.MinInt64), api.OK}, {"*", num(0), num(math.MinInt64), num(0), api.OK}, {"*", num(math.MinInt64), num(0), num(0), api.OK}, {"*", num(1 << 32), num(1 << 31), null, api.ErrOver}, {"*", num(1 << 32), num(-1 << 31), num(math.MinInt64), api.OK}, {"*", num(1 << 32), num(1 << 32), null, api.ErrOver},
		{"/", num(7), num(2), num(3), api.OK}, {"/", num(-7), num(2), num(-3), api.OK}, {"/", num(7), num(-2), num(-3), api.OK}, {"/", num(-7), num(-2), num(3), api.OK}, {"/", num(7), num(0), null, api.OK}, {"/", num(7), text("a"), null, api.OK}, {"/", num(0), num(0), null, api.OK}, {"/", num(math.MinInt64), num(0), null, api.OK}, {"/", num(math.MinInt64), num(-1), null, api.ErrOver}, {"/", num(math.MinInt64), num(1), num(math.MinInt64), api.OK}, {"/", num(math.MaxInt64), num(-1), num(-math.MaxInt64), api.OK},
		{"%", num(7), num(2), num(1), api.OK}, {"%", num(-7), num(2), num(-1), api.OK}, {"%", num(7), num(-2), num(1), api.OK}, {"%", num(-7), num(-2), num(-1), api.OK}, {"%", num(7), num(0), null, api.OK}, {"%", num(math.MinInt64), num(-1), num(0), api.OK}, {"%", num(math.MinInt64), num(0), null, api.OK}, {"%", num(5), num(math.MinInt64), num(5), api.OK}, {"%", num(math.MinInt64), num(math.MinInt64), num(0), api.OK},
		{"||", text("a"), text("b"), text("ab"), api.OK}, {"||", num(1), text("x"), text("1x"), api.OK}, {"||", num(-1), num(2), text("-12"), api.OK}, {"||", blob("a"), blob("\x00"), text("a\x00"), api.OK}, {"||", text(""), text(""), text(""), api.OK},
		{"||", text(full(1)), text("y"), text(full(1) + "y"), api.OK}, {"||", text(full(0)), text(""), text(full(0)), api.OK}, {"||", blob(full(0)), num(7), null, api.ErrLong}, {"||", num(-1), text(full(1)), null, api.ErrLong}, {"||", num(-1), text(full(2)), text("-1" + full(2)), api.OK}, {"||", text(full(0)), text(full(0)), null, api.ErrLong}, {"||", text(full(0)), null, null, api.OK},
		{"=", num(1), num(1), num(1), api.OK}, {"=", num(1), text("1"), num(0), api.OK}, {"=", text("a"), blob("a"), num(0), api.OK}, {"=", text("a"), text("A"), num(0), api.OK}, {"<>", num(1), text("1"), num(1), api.OK},
		{"<", text("9"), num(10), num(0), api.OK}, {"<", num(10), text("9"), num(1), api.OK}, {"<", text("10"), text("9"), num(1), api.OK}, {"<", text("z"), blob("a"), num(1), api.OK}, {"<", text("a"), text("ab"), num(1), api.OK}, {">=", text("a"), text("a"), num(1), api.OK},
		{"like", text("Card"), text("c%r_"), num(1), api.OK}, {"like", text("c%r_"), text("Card"), num(0), api.OK}, {"like", num(-12), text("-_2"), num(1), api.OK}, {"like", num(12), num(12), num(1), api.OK}, {"like", blob("ab"), blob("A%"), num(1), api.OK}, {"like", text(""), text(""), num(1), api.OK}, {"like", text("a"), text(""), num(0), api.OK},
	} {
		v, err := Op(c.sign, c.a, c.b)
		want(t, short(c.a).S+Show(num(c.a.N))+" "+c.sign+" "+short(c.b).S+Show(num(c.b.N)), v, err, c.v, c.e)
	}
}

// P2.2: MaxLike just met, and missed by one, of whatever is asked.
func TestOpLikeLimit(t *testing.T) {
	most, more := strings.Repeat("%", api.MaxLike), strings.Repeat("%", api.MaxLike+1)
	for _, a := range []api.Value{text(""), text("a"), num(1), blob(full(0))} {
		v, err := Op("like", a, text(most))
		want(t, "like the longest pattern", v, err, num(1), api.OK)
		v, err = Op("like", a, blob(most[1:]+"b"))
		want(t, "like the longest pattern, with a b", v, err, num(0), api.OK)
		for _, pattern := range []api.Value{text(more), blob(more), text(full(0)), text(strings.Repeat("b", api.MaxLike+1))} {
			v, err = Op("like", a, pattern)
			want(t, "like one that is too long", v, err, null, api.ErrLong)
		}
	}
	v, err := Op("like", null, text(more))
	want(t, "NULL like one that is too long", v, err, null, api.OK)
	v, err = Op("like", text(more), text("%"))
	want(t, "what is long, like a short one", v, err, num(1), api.OK)
}

// bigOp says the chapter's words about numbers in another way: with big ones.
func bigOp(sign string, a, b int64) (api.Value, api.Errno) {
	x, y, z := big.NewInt(a), big.NewInt(b), new(big.Int)
	switch sign {
	case "+":
		z.Add(x, y)
	case "-":
		z.Sub(x, y)
	case "*":
		z.Mul(x, y)
	default:
		if b == 0 {
			return null, api.OK
		}
		if sign == "/" {
			z.Quo(x, y)
		} else {
			z.Rem(x, y)
		}
	}
	if !z.IsInt64() {
		return null, api.ErrOver
	}
	return num(z.Int64()), api.OK
}

// P2.2: each two of many numbers, edges among them.
func TestOpOfNumbers(t *testing.T) {
	l := someInts()
	for i := range 64 {
		l = append(l, 1<<i, 1<<i-1, -(1 << i), 6364136223846793005<<i)
	}
	for _, a := range l {
		for _, b := range l {
			for _, sign := range reckoning {
				v, err := Op(sign, num(a), num(b))
				wantV, wantE := bigOp(sign, a, b)
				want(t, Show(num(a))+" "+sign+" "+Show(num(b)), v, err, wantV, wantE)
			}
		}
	}
}

// P2.2: of whatever kinds, it is the Ints that are reckoned with.
func TestOpTakesInts(t *testing.T) {
	for _, a := range rightValues() {
		for _, b := range rightValues() {
			for _, sign := range reckoning {
				v, err := Op(sign, a, b)
				wantV, wantE := bigOp(sign, Int(a), Int(b))
				if a == null || b == null {
					wantV, wantE = null, api.OK
				}
				want(t, Show(short(a))+" "+sign+" "+Show(short(b)), v, err, wantV, wantE)
			}
		}
	}
}

// P2.2: signs that compare are by Compare.
func TestOpCompares(t *testing.T) {
	holds := map[string][3]int64{"=": {0, 1, 0}, "<>": {1, 0, 1}, "<": {1, 0, 0}, "<=": {1, 1, 0}, ">": {0, 0, 1}, ">=": {0, 1, 1}}
	for _, a := range rightValues() {
		for _, b := range rightValues() {
			for _, sign := range comparing {
				v, err := Op(sign, a, b)
				wantV := num(holds[sign][Compare(a, b)+1])
				if a == null || b == null {
					wantV = null
				}
				want(t, Show(short(a))+" "+sign+" "+Show(short(b)), v, err, wantV, api.OK)
			}
		}
	}
}

// P2.2: NULL on either side makes NULL, but of and, or.
func TestOpOfNull(t *testing.T) {
	for _, sign := range signs {
		if sign == "and" || sign == "or" {
			continue
		}
		for _, v := range rightValues() {
			got, err := Op(sign, null, v)
			want(t, "NULL "+sign, got, err, null, api.OK)
			got, err = Op(sign, v, null)
			want(t, sign+" NULL", got, err, null, api.OK)
		}
	}
}

// P2.2, P2.3: and, or, not by what is true, not known, false.
func TestLogic(t *testing.T) {
	yes := list(num(1), num(-1), num(math.MinInt64), text("1"), text(" -2x"), blob("3"))
	no := list(num(0), text(""), text("a"), text("0"), blob(""), blob("\x01"))
	unknown := list(null)
	one, zero := num(1), num(0)
	for _, c := range []struct {
		a, b    []api.Value
		and, or api.Value
	}{
		{yes, yes, one, one}, {yes, no, zero, one}, {no, yes, zero, one}, {no, no, zero, zero},
		{unknown, yes, null, one}, {yes, unknown, null, one}, {unknown, no, zero, null}, {no, unknown, zero, null}, {unknown, unknown, null, null},
	} {
		for _, a := range c.a {
			for _, b := range c.b {
				v, err := Op("and", a, b)
				want(t, Show(a)+" and "+Show(b), v, err, c.and, api.OK)
				v, err = Op("or", a, b)
				want(t, Show(a)+" or "+Show(b), v, err, c.or, api.OK)
			}
		}
	}
	for i, l := range [][]api.Value{yes, no, unknown} {
		for _, a := range l {
			v, err := One("not", a)
			want(t, "not "+Show(a), v, err, list(zero, one, null)[i], api.OK)
		}
	}
}

// P2.3: 0 less an Int.
func TestOneLess(t *testing.T) {
	for _, c := range []struct {
		a, v api.Value
		e    api.Errno
	}{
		{null, null, api.OK}, {num(0), num(0), api.OK}, {num(5), num(-5), api.OK}, {num(-5), num(5), api.OK},
		{num(math.MaxInt64), num(-math.MaxInt64), api.OK}, {num(-math.MaxInt64), num(math.MaxInt64), api.OK}, {num(math.MinInt64), null, api.ErrOver},
		{text("-7x"), num(7), api.OK}, {text(""), num(0), api.OK}, {blob(" 7"), num(-7), api.OK}, {text("-99999999999999999999"), null, api.ErrOver}, {text("99999999999999999999"), num(-math.MaxInt64), api.OK},
	} {
		v, err := One("-", c.a)
		want(t, "- "+Show(c.a), v, err, c.v, c.e)
	}
}

// P2.2, P2.3: values that are not right are refused, on either side, ahead of everything else.
func TestSignsRefuseWrongValues(t *testing.T) {
	for _, wrong := range wrongValues() {
		for _, sign := range append(signs, "", "xor") {
			for _, v := range list(null, num(0), num(1), text("a"), text(full(0)), wrong) {
				got, err := Op(sign, wrong, v)
				want(t, sign+" with a wrong one first", got, err, null, api.ErrArg)
				got, err = Op(sign, v, wrong)
				want(t, sign+" with a wrong one second", got, err, null, api.ErrArg)
			}
		}
		for _, sign := range []string{"-", "not", "", "+"} {
			got, err := One(sign, wrong)
			want(t, sign+" of a wrong one", got, err, null, api.ErrArg)
		}
	}
}

// P2.2, P2.3: signs that are none are refused, of NULL too.
func TestSignsThatAreNone(t *testing.T) {
	for _, sign := range []string{"", " ", "not", "AND", "Or", "LIKE", "==", "!=", "><", "=<", "=>", "|", "&", "&&", "|||", "+ ", " +", "**", "is", "in", "\x00", "+-", "andor"} {
		for _, a := range list(null, num(0), num(1), text("a")) {
			for _, b := range list(null, num(0), num(1), text("a")) {
				v, err := Op(sign, a, b)
				want(t, Show(a)+" "+sign+" "+Show(b), v, err, null, api.ErrArg)
			}
		}
	}
	for _, sign := range append([]string{"", "NOT", "Not", "--", " -", "- ", "!", "~", "abs"}, signs...) {
		if sign == "-" {
			continue
		}
		for _, a := range list(null, num(0), num(1), text("a")) {
			v, err := One(sign, a)
			want(t, sign+" "+Show(a), v, err, null, api.ErrArg)
		}
	}
}

// P2.2, R2: what is told is right, and nothing stands beside an error.
func TestOpTellsRightValues(t *testing.T) {
	for _, sign := range append(signs, "", "xor") {
		for _, a := range anyValues() {
			for _, b := range anyValues() {
				v, err := Op(sign, a, b)
				if !Right(v) || err != api.OK && v != null {
					t.Errorf("%v %s %v = %v, error %d", short(a), sign, short(b), short(v), err)
				}
			}
		}
	}
}
