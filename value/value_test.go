package value

import (
	"math"
	"math/big"
	"strings"
	"testing"

	"cardindex/api"
)

// P2.1: what is right, and what is not.
func TestRight(t *testing.T) {
	for _, v := range rightValues() {
		if !Right(v) {
			t.Errorf("%v is not right", short(v))
		}
	}
	for _, v := range wrongValues() {
		if Right(v) {
			t.Errorf("%v is right", short(v))
		}
	}
}

// P2.1: just the kinds 0 to 3 are ones.
func TestRightKinds(t *testing.T) {
	for k := range 256 {
		if got := Right(api.Value{Kind: api.Kind(k)}); got != (k < 4) {
			t.Errorf("kind %d: %v", k, got)
		}
	}
}

// P2.1: how values compare.
func TestCompare(t *testing.T) {
	rising := []api.Value{
		null,
		num(math.MinInt64), num(-5), num(0), num(9), num(10), num(math.MaxInt64),
		text(""), text("\x00"), text("\x00\x00"), text("10"), text("9"), text("A"), text("a"), text("a\x00"), text("ab"), text("b"), text("é"), text("\xff"),
		blob(""), blob("\x00"), blob("1"), blob("a"), blob("ab"), blob("b"), blob("\xff"), blob("\xff\x00"),
		{Kind: 4}, {Kind: 5}, {Kind: 255},
	}
	for i, a := range rising {
		for j, b := range rising {
			want := 0
			if i < j {
				want = -1
			}
			if i > j {
				want = 1
			}
			if got := Compare(a, b); got != want {
				t.Errorf("Compare(%v, %v) = %d", a, b, got)
			}
		}
	}
}

// P2.1: what a kind does not name is not asked, whatever stands there.
func TestCompareAsksNoMore(t *testing.T) {
	for _, c := range [][2]api.Value{
		{{N: 1}, {N: 2}},
		{{S: "a"}, {}},
		{{Kind: api.VInt, N: 7, S: "a"}, {Kind: api.VInt, N: 7, S: "b"}},
		{{Kind: api.VText, N: 1, S: "a"}, {Kind: api.VText, N: 2, S: "a"}},
		{{Kind: api.VBlob, N: 1, S: "a"}, {Kind: api.VBlob, N: 2, S: "a"}},
		{{Kind: 9, N: 1, S: "a"}, {Kind: 9, N: 2, S: "b"}},
	} {
		if got := Compare(c[0], c[1]); got != 0 {
			t.Errorf("Compare(%v, %v) = %d", c[0], c[1], got)
		}
	}
	for _, c := range [][2]api.Value{
		{{N: 9, S: "z"}, {Kind: api.VInt, N: -9}},
		{{Kind: api.VInt, N: 1, S: "z"}, {Kind: api.VInt, N: 2}},
		{{Kind: api.VText, N: 9, S: "a"}, {Kind: api.VText, N: 1, S: "b"}},
		{text(full(0) + "x"), text(full(0) + "y")},
	} {
		if got := Compare(c[0], c[1]); got != -1 {
			t.Errorf("Compare(%v, %v) = %d", short(c[0]), short(c[1]), got)
		}
	}
}

// P2.6: Compare is an order: turned about it is the other way round, and what is below one that is below another is below that.
func TestCompareIsAnOrder(t *testing.T) {
	all := anyValues()
	for _, a := range all {
		if Compare(a, a) != 0 {
			t.Errorf("%v is not the same as itself", short(a))
		}
		for _, b := range all {
			ab := Compare(a, b)
			if ab < -1 || ab > 1 || ab != -Compare(b, a) {
				t.Errorf("%v, %v: %d, turned about %d", short(a), short(b), ab, Compare(b, a))
			}
			if Right(a) && Right(b) && (ab == 0) != (a == b) {
				t.Errorf("%v, %v: %d", short(a), short(b), ab)
			}
			for _, c := range all {
				if ab <= 0 && Compare(b, c) <= 0 && Compare(a, c) > 0 {
					t.Errorf("%v, %v, %v do not rise", short(a), short(b), short(c))
				}
			}
		}
	}
}

// P2.1: what is true, and what is known.
func TestTruth(t *testing.T) {
	for _, c := range []struct {
		v           api.Value
		true, known bool
	}{
		{null, false, false},
		{api.Value{N: 1, S: "1"}, false, false},
		{num(0), false, true}, {num(1), true, true}, {num(-1), true, true}, {num(math.MinInt64), true, true}, {num(2), true, true},
		{text(""), false, true}, {text("0"), false, true}, {text("a"), false, true}, {text("1"), true, true}, {text(" -3x"), true, true}, {text("x1"), false, true},
		{blob(""), false, true}, {blob("0"), false, true}, {blob("7"), true, true}, {blob("\x01"), false, true},
		{api.Value{Kind: api.VInt, S: "1"}, false, true},
		{api.Value{Kind: api.VText, N: 1}, false, true},
		{api.Value{Kind: 4, N: 1, S: "1"}, false, true},
	} {
		if is, known := Truth(c.v); is != c.true || known != c.known {
			t.Errorf("Truth(%v) = %v, %v", c.v, is, known)
		}
	}
}

// P2.1: the Int of values.
func TestInt(t *testing.T) {
	for _, n := range someInts() {
		if got := Int(num(n)); got != n {
			t.Errorf("Int of %d = %d", n, got)
		}
	}
	for _, c := range []struct {
		s    string
		want int64
	}{
		{"", 0}, {"a", 0}, {"-", 0}, {"+", 0}, {" ", 0}, {" - 1", 0}, {"+-1", 0}, {"-+1", 0}, {"--1", 0}, {"a1", 0}, {"- 1", 0}, {"\x001", 0}, {".5", 0},
		{"0", 0}, {"-0", 0}, {"1", 1}, {"+1", 1}, {"-1", -1}, {"12ab", 12}, {" -12ab", -12}, {"1 2", 1}, {"1-2", 1}, {"007", 7}, {"1_0", 1}, {"0x10", 0}, {"1.9", 1}, {"1e3", 1},
		{"\t\n\v\f\r 5", 5}, {"\x085", 0}, {"\x0e5", 0}, {"\x1f5", 0}, {"!5", 0}, {"\xa05", 0}, {"5:", 5}, {"5/", 5}, {":5", 0}, {"/5", 0},
		{"9223372036854775806", math.MaxInt64 - 1}, {"9223372036854775807", math.MaxInt64}, {"9223372036854775808", math.MaxInt64}, {"9223372036854775809", math.MaxInt64},
		{"9223372036854775800", 9223372036854775800}, {"9223372036854775810", math.MaxInt64}, {"18446744073709551616", math.MaxInt64}, {"18446744073709551617", math.MaxInt64},
		{"99999999999999999999", math.MaxInt64}, {"+99999999999999999999x", math.MaxInt64}, {strings.Repeat("9", 1000), math.MaxInt64},
		{"-9223372036854775807", math.MinInt64 + 1}, {"-9223372036854775808", math.MinInt64}, {"-9223372036854775809", math.MinInt64},
		{"-99999999999999999999", math.MinInt64}, {"-18446744073709551617", math.MinInt64}, {" \n-" + strings.Repeat("9", 1000), math.MinInt64},
		{strings.Repeat("0", 1000) + "12", 12}, {"-" + strings.Repeat("0", 1000) + "9223372036854775808", math.MinInt64}, {strings.Repeat(" ", 1000) + "12", 12},
	} {
		for _, v := range []api.Value{text(c.s), blob(c.s), {Kind: api.VText, S: c.s, N: 99}} {
			if got := Int(v); got != c.want {
				t.Errorf("Int of %v = %d, not %d", short(v), got, c.want)
			}
		}
	}
	for v, want := range map[api.Value]int64{null: 0, {N: 7, S: "7"}: 0, {Kind: api.VInt, N: 5, S: "7"}: 5, {Kind: 4, N: 7, S: "7"}: 0} {
		if got := Int(v); got != want {
			t.Errorf("Int of %v = %d", v, got)
		}
	}
}

// intOf says the chapter's words about the Int in another way: with big numbers.
func intOf(s string) int64 {
	s = strings.TrimLeft(s, "\t\n\v\f\r ")
	begin := strings.TrimLeft(s, "+-")
	if len(s)-len(begin) > 1 {
		return 0
	}
	digits := begin[:len(begin)-len(strings.TrimLeft(begin, "0123456789"))]
	n, _ := new(big.Int).SetString("0"+digits, 10)
	if strings.HasPrefix(s, "-") {
		n.Neg(n)
	}
	if n.IsInt64() {
		return n.Int64()
	}
	if n.Sign() < 0 {
		return math.MinInt64
	}
	return math.MaxInt64
}

// P2.1: all short strings of bytes that count, alone and behind the first digits of 2^63 and beyond.
func TestIntOfAllShort(t *testing.T) {
	var grow func(s string, left int)
	grow = func(s string, left int) {
		if got, want := Int(text(s)), intOf(s); got != want {
			t.Fatalf("Int of %q = %d, not %d", s, got, want)
		}
		if left == 0 {
			return
		}
		for _, c := range []byte("\t +-0179a") {
			grow(s+string(c), left-1)
		}
	}
	grow("", 5)
	for _, s := range []string{"92233720368547758", "-92233720368547758", "18446744073709551", "-18446744073709551"} {
		grow(s, 4)
	}
}

// P2.1: numbers in texts that nobody thought of.
func FuzzInt(f *testing.F) {
	f.Add(" -12ab")
	f.Add("99999999999999999999")
	f.Fuzz(func(t *testing.T, s string) {
		if got, want := Int(text(s)), intOf(s); got != want {
			t.Fatalf("Int of %q = %d, not %d", s, got, want)
		}
	})
}

// P2.1: the Text of values.
func TestText(t *testing.T) {
	for _, c := range []struct {
		v    api.Value
		want string
	}{
		{null, ""}, {api.Value{N: 1, S: "a"}, ""},
		{num(0), "0"}, {num(7), "7"}, {num(-12), "-12"}, {num(math.MaxInt64), "9223372036854775807"}, {num(math.MinInt64), "-9223372036854775808"},
		{api.Value{Kind: api.VInt, N: 5, S: "7"}, "5"},
		{text(""), ""}, {text("it's"), "it's"}, {text("\x00\xff"), "\x00\xff"}, {text(full(0)), full(0)}, {api.Value{Kind: api.VText, N: 1, S: "a"}, "a"},
		{blob(""), ""}, {blob("\x00\xff"), "\x00\xff"}, {blob("a"), "a"},
		{api.Value{Kind: 4, N: 7, S: "7"}, ""},
	} {
		if got := Text(c.v); got != c.want {
			t.Errorf("Text of %v = %q", short(c.v), short(text(got)).S)
		}
	}
}

// P2.3: what Cast tells, and refuses.
func TestCast(t *testing.T) {
	for _, c := range []struct {
		to      string
		v, want api.Value
	}{
		{"int", null, null}, {"text", null, null},
		{"int", num(-5), num(-5)}, {"int", text(" -12ab"), num(-12)}, {"int", text(""), num(0)}, {"int", blob("7"), num(7)}, {"int", text("99999999999999999999"), num(math.MaxInt64)},
		{"text", num(-5), text("-5")}, {"text", num(math.MinInt64), text("-9223372036854775808")}, {"text", text("it's"), text("it's")}, {"text", blob("\x00\xff"), text("\x00\xff")}, {"text", text(full(0)), text(full(0))}, {"text", blob(""), text("")},
	} {
		if v, err := Cast(c.to, c.v); v != c.want || err != api.OK {
			t.Errorf("%v as %s: %v, error %d", short(c.v), c.to, short(v), err)
		}
	}
	for _, v := range wrongValues() {
		for _, to := range []string{"int", "text", "blob"} {
			if got, err := Cast(to, v); got != null || err != api.ErrArg {
				t.Errorf("%v as %s: %v, error %d", short(v), to, short(got), err)
			}
		}
	}
	for _, to := range []string{"", "blob", "integer", "Int", "TEXT", "int ", " text", "null", "i"} {
		for _, v := range []api.Value{null, num(1), text("a")} {
			if got, err := Cast(to, v); got != null || err != api.ErrArg {
				t.Errorf("%v as %q: %v, error %d", v, to, got, err)
			}
		}
	}
}

// P2.5: how values are shown.
func TestShow(t *testing.T) {
	for _, c := range []struct {
		v    api.Value
		want string
	}{
		{null, "NULL"},
		{num(0), "0"}, {num(-12), "-12"}, {num(math.MaxInt64), "9223372036854775807"}, {num(math.MinInt64), "-9223372036854775808"},
		{text(""), "''"}, {text("a"), "'a'"}, {text("it's"), "'it''s'"}, {text("'"), "''''"}, {text("''"), "''''''"}, {text("NULL"), "'NULL'"}, {text("\x00\n\\\"\xff"), "'\x00\n\\\"\xff'"},
		{blob(""), "X''"}, {blob("\x00\xff"), "X'00FF'"}, {blob("'"), "X'27'"}, {blob("\x01\x23\x45\x67\x89\xab\xcd\xef"), "X'0123456789ABCDEF'"},
		{text(full(0)), "'" + full(0) + "'"}, {blob(full(0)), "X'" + strings.Repeat("78", api.MaxValue) + "'"},
		{api.Value{N: 1, S: "a"}, "NULL"}, {api.Value{Kind: api.VInt, N: 5, S: "a"}, "5"}, {api.Value{Kind: api.VText, N: 5, S: "a"}, "'a'"},
		{api.Value{Kind: 4, N: 5, S: "a"}, ""},
	} {
		if got := Show(c.v); got != c.want {
			t.Errorf("Show(%v) = %q", short(c.v), short(text(got)).S)
		}
	}
}

// P2.5: each right value is shown otherwise than any other.
func TestShowTellsApart(t *testing.T) {
	seen := map[string]api.Value{}
	for _, v := range rightValues() {
		s := Show(v)
		if other, there := seen[s]; there && other != v {
			t.Errorf("%v and %v are both shown %q", short(other), short(v), s)
		}
		seen[s] = v
	}
}
