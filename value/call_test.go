package value

import (
	"math"
	"math/big"
	"strings"
	"testing"

	"cardindex/api"
)

// names is each function's least and greatest count of arguments.
var names = map[string][2]int{
	"length": {1, 1}, "upper": {1, 1}, "lower": {1, 1}, "abs": {1, 1}, "typeof": {1, 1}, "hex": {1, 1},
	"ifnull": {2, 2}, "instr": {2, 2}, "substr": {2, 3}, "coalesce": {2, api.MaxArgs},
}

// noNames are names of no function.
var noNames = []string{"", "Length", "UPPER", "len", "length ", " abs", "count", "sum", "min", "max", "cast", "like", "substring", "nullif", "+", "not", "\x00"}

// times is a list of n such values.
func times(n int, v api.Value) []api.Value {
	l := make([]api.Value, n)
	for i := range l {
		l[i] = v
	}
	return l
}

// P2.4: which functions there are, with how many arguments; Call refuses all others.
func TestKnown(t *testing.T) {
	for name, count := range names {
		for n := -2; n <= api.MaxArgs+2; n++ {
			known := count[0] <= n && n <= count[1]
			if got := Known(name, n); got != known {
				t.Errorf("Known(%s, %d) = %v", name, n, got)
			}
			if n < 0 {
				continue
			}
			for _, v := range list(num(1), null, api.Value{Kind: 4}) {
				_, err := Call(name, times(n, v))
				if (err == api.ErrFunc) == known {
					t.Errorf("%s of %d times %v: error %d", name, n, v, err)
				}
			}
		}
		for _, n := range []int{math.MinInt, math.MaxInt, 1 << 32, 1<<32 + 1, 1<<32 + 2} {
			if Known(name, n) {
				t.Errorf("Known(%s, %d)", name, n)
			}
		}
	}
	for _, name := range noNames {
		for n := -1; n <= api.MaxArgs+1; n++ {
			if Known(name, n) {
				t.Errorf("Known(%q, %d)", name, n)
			}
		}
		for n := range 4 {
			v, err := Call(name, times(n, num(1)))
			want(t, name, v, err, null, api.ErrFunc)
		}
	}
}

// P2.4: of a wrong count and wrong values the count is told; of wrong values and NULL the wrong values.
func TestCallErrorsInOrder(t *testing.T) {
	for _, wrong := range wrongValues() {
		for name, count := range names {
			for _, n := range []int{0, count[0] - 1, count[1] + 1} {
				v, err := Call(name, times(n, wrong))
				want(t, name+" of too few or too many wrong ones", v, err, null, api.ErrFunc)
			}
			for n := count[0]; n <= count[1]; n++ {
				for _, beside := range list(null, num(1), num(math.MinInt64), text(full(0))) {
					for _, at := range []int{0, n / 2, n - 1} {
						args := times(n, beside)
						args[at] = wrong
						v, err := Call(name, args)
						want(t, name+" with a wrong one", v, err, null, api.ErrArg)
					}
				}
			}
		}
		v, err := Call("none", list(wrong))
		want(t, "no function of a wrong one", v, err, null, api.ErrFunc)
	}
}

// P2.4: NULL anywhere makes NULL, but of typeof, hex, ifnull, coalesce.
func TestCallOfNull(t *testing.T) {
	for _, name := range []string{"length", "upper", "lower", "abs", "instr", "substr"} {
		for n := names[name][0]; n <= names[name][1]; n++ {
			for at := range n {
				for _, beside := range list(null, num(1), text("a"), num(math.MinInt64)) {
					args := times(n, beside)
					args[at] = null
					v, err := Call(name, args)
					want(t, name+" with NULL", v, err, null, api.OK)
				}
			}
		}
	}
}

// P2.4: what functions tell, but substr.
func TestCall(t *testing.T) {
	half := strings.Repeat("x", api.MaxValue/2)
	for _, c := range []struct {
		name string
		args []api.Value
		v    api.Value
		e    api.Errno
	}{
		{"length", list(text("")), num(0), api.OK}, {"length", list(text("abc")), num(3), api.OK}, {"length", list(text("é")), num(2), api.OK}, {"length", list(blob("\x00\x00")), num(2), api.OK}, {"length", list(num(-12)), num(3), api.OK}, {"length", list(num(0)), num(1), api.OK}, {"length", list(num(math.MinInt64)), num(20), api.OK}, {"length", list(text(full(0))), num(api.MaxValue), api.OK},
		{"upper", list(text("aZz19 é`{@[")), text("AZZ19 é`{@["), api.OK}, {"upper", list(blob("ab\x00\xff\xe9")), text("AB\x00\xff\xe9"), api.OK}, {"upper", list(num(-5)), text("-5"), api.OK}, {"upper", list(text("")), text(""), api.OK}, {"upper", list(text("ßſı")), text("ßſı"), api.OK}, {"upper", list(text(full(0))), text(strings.Repeat("X", api.MaxValue)), api.OK},
		{"lower", list(text("AzZ19 É`{@[")), text("azz19 É`{@["), api.OK}, {"lower", list(blob("AB\x00\xff\xc9")), text("ab\x00\xff\xc9"), api.OK}, {"lower", list(num(-5)), text("-5"), api.OK}, {"lower", list(text("")), text(""), api.OK}, {"lower", list(text("\u212aİ")), text("\u212aİ"), api.OK},
		{"abs", list(num(5)), num(5), api.OK}, {"abs", list(num(-5)), num(5), api.OK}, {"abs", list(num(0)), num(0), api.OK}, {"abs", list(num(math.MaxInt64)), num(math.MaxInt64), api.OK}, {"abs", list(num(-math.MaxInt64)), num(math.MaxInt64), api.OK}, {"abs", list(num(math.MinInt64)), null, api.ErrOver}, {"abs", list(text(" -7x")), num(7), api.OK}, {"abs", list(text("a")), num(0), api.OK}, {"abs", list(blob("-99999999999999999999")), null, api.ErrOver}, {"abs", list(text("99999999999999999999")), num(math.MaxInt64), api.OK},
		{"typeof", list(null), text("null"), api.OK}, {"typeof", list(num(1)), text("integer"), api.OK}, {"typeof", list(text("1")), text("text"), api.OK}, {"typeof", list(blob("")), text("blob"), api.OK}, {"typeof", list(text("")), text("text"), api.OK},
		{"hex", list(null), text(""), api.OK}, {"hex", list(text("")), text(""), api.OK}, {"hex", list(blob("\x00\xff\x1a")), text("00FF1A"), api.OK}, {"hex", list(text("az")), text("617A"), api.OK}, {"hex", list(num(-1)), text("2D31"), api.OK},
		{"hex", list(text(half)), text(strings.Repeat("78", api.MaxValue/2)), api.OK}, {"hex", list(text(half + "x")), null, api.ErrLong}, {"hex", list(blob(full(0))), null, api.ErrLong},
		{"ifnull", list(null, null), null, api.OK}, {"ifnull", list(num(1), null), num(1), api.OK}, {"ifnull", list(null, text("a")), text("a"), api.OK}, {"ifnull", list(blob("a"), num(2)), blob("a"), api.OK}, {"ifnull", list(num(0), num(2)), num(0), api.OK}, {"ifnull", list(text(""), num(2)), text(""), api.OK},
		{"coalesce", list(null, null), null, api.OK}, {"coalesce", list(null, num(0), num(2)), num(0), api.OK}, {"coalesce", list(blob("a"), null), blob("a"), api.OK}, {"coalesce", times(api.MaxArgs, null), null, api.OK}, {"coalesce", append(times(api.MaxArgs-1, null), text("z")), text("z"), api.OK}, {"coalesce", append(times(3, null), text("y"), text("z")), text("y"), api.OK},
		{"instr", list(text("abcab"), text("ca")), num(3), api.OK}, {"instr", list(text("abcab"), text("ab")), num(1), api.OK}, {"instr", list(text("abcab"), text("b")), num(2), api.OK}, {"instr", list(text("abcab"), text("x")), num(0), api.OK}, {"instr", list(text("abc"), text("")), num(1), api.OK}, {"instr", list(text(""), text("")), num(1), api.OK}, {"instr", list(text(""), text("a")), num(0), api.OK}, {"instr", list(text("ab"), text("abc")), num(0), api.OK}, {"instr", list(text("abc"), text("abc")), num(1), api.OK}, {"instr", list(text("abc"), text("C")), num(0), api.OK},
		{"instr", list(num(-123), num(23)), num(3), api.OK}, {"instr", list(blob("a\x00b"), text("\x00")), num(2), api.OK}, {"instr", list(text("éa"), text("a")), num(3), api.OK}, {"instr", list(text("éa"), blob("\xa9")), num(2), api.OK}, {"instr", list(text(full(1)+"y"), text("y")), num(api.MaxValue), api.OK}, {"instr", list(text("aaab"), text("aab")), num(2), api.OK}, {"instr", list(text("%a"), text("_")), num(0), api.OK},
	} {
		v, err := Call(c.name, c.args)
		want(t, c.name+" of "+Show(short(c.args[0])), v, err, c.v, c.e)
	}
}

// P2.4: substr at the edges that the chapter names.
func TestSubstr(t *testing.T) {
	for _, c := range []struct {
		args []api.Value
		v    api.Value
	}{
		{list(text("hello"), num(-3), num(2)), text("ll")}, {list(text("hello"), num(0), num(2)), text("h")}, {list(text("hello"), num(3), num(-2)), text("he")},
		{list(text("hello"), num(1)), text("hello")}, {list(text("hello"), num(2)), text("ello")}, {list(text("hello"), num(5)), text("o")}, {list(text("hello"), num(6)), text("")}, {list(text("hello"), num(7)), text("")}, {list(text("hello"), num(0)), text("hello")}, {list(text("hello"), num(-1)), text("o")}, {list(text("hello"), num(-5)), text("hello")}, {list(text("hello"), num(-6)), text("hello")}, {list(text("hello"), num(-99)), text("hello")},
		{list(text("hello"), num(2), num(0)), text("")}, {list(text("hello"), num(2), num(1)), text("e")}, {list(text("hello"), num(2), num(4)), text("ello")}, {list(text("hello"), num(2), num(99)), text("ello")}, {list(text("hello"), num(0), num(1)), text("")}, {list(text("hello"), num(0), num(0)), text("")}, {list(text("hello"), num(0), num(-1)), text("")}, {list(text("hello"), num(6), num(1)), text("")}, {list(text("hello"), num(99), num(1)), text("")},
		{list(text("hello"), num(6), num(-1)), text("o")}, {list(text("hello"), num(7), num(-1)), text("")}, {list(text("hello"), num(7), num(-2)), text("o")}, {list(text("hello"), num(8), num(-99)), text("hello")}, {list(text("hello"), num(1), num(-1)), text("")}, {list(text("hello"), num(2), num(-1)), text("h")}, {list(text("hello"), num(-1), num(-2)), text("ll")}, {list(text("hello"), num(-7), num(2)), text("")}, {list(text("hello"), num(-7), num(3)), text("h")}, {list(text("hello"), num(-7), num(-3)), text("")},
		{list(text("hello"), num(1), num(math.MaxInt64)), text("hello")}, {list(text("hello"), num(math.MaxInt64), num(math.MaxInt64)), text("")}, {list(text("hello"), num(math.MaxInt64), num(math.MinInt64)), text("hello")}, {list(text("hello"), num(math.MaxInt64), num(-math.MaxInt64+5)), text("o")}, {list(text("hello"), num(math.MaxInt64), num(-math.MaxInt64+6)), text("")}, {list(text("hello"), num(math.MinInt64), num(math.MinInt64)), text("")}, {list(text("hello"), num(math.MinInt64), num(math.MaxInt64)), text("hell")}, {list(text("hello"), num(math.MinInt64)), text("hello")}, {list(text("hello"), num(math.MaxInt64)), text("")}, {list(text("hello"), num(3), num(math.MinInt64)), text("he")},
		{list(text(""), num(0)), text("")}, {list(text(""), num(1), num(1)), text("")}, {list(text(""), num(-1), num(5)), text("")},
		{list(blob("\x00\xff\x01"), num(2), num(1)), blob("\xff")}, {list(blob("\x00\xff\x01"), num(9)), blob("")}, {list(blob(""), num(1)), blob("")},
		{list(num(-123), num(1), num(2)), text("-1")}, {list(num(-123), num(-2)), text("23")}, {list(text("é"), num(2)), text("\xa9")},
		{list(text("hello"), text(" 2x"), text("3")), text("ell")}, {list(text("hello"), blob("-3"), blob("2")), text("ll")}, {list(text("hello"), text("a"), text("")), text("")}, {list(text("hello"), text("99999999999999999999"), text("-99999999999999999999")), text("hello")},
		{list(text(full(1)+"y"), num(api.MaxValue)), text("y")}, {list(text(full(1)+"y"), num(-1), num(1)), text("y")}, {list(text(full(0)), num(1), num(api.MaxValue)), text(full(0))},
	} {
		v, err := Call("substr", c.args)
		if v != c.v || err != api.OK {
			t.Errorf("substr%v = %v, error %d", shorts(c.args), short(v), err)
		}
	}
}

// substrSlow says the chapter's words in another way: place by place, with big numbers.
func substrSlow(s string, f int64, n []int64) string {
	p := big.NewInt(f)
	if f < 0 {
		p.Add(p, big.NewInt(int64(len(s))+1))
	}
	out := ""
	for i := range len(s) {
		place := big.NewInt(int64(i) + 1)
		in := place.Cmp(p) >= 0
		if len(n) > 0 {
			other := new(big.Int).Add(p, big.NewInt(n[0]))
			in = in && place.Cmp(other) < 0 || n[0] < 0 && place.Cmp(p) < 0 && place.Cmp(other) >= 0
		}
		if in {
			out += s[i : i+1]
		}
	}
	return out
}

// P2.4: substr at all small places and counts, and at great ones.
func TestSubstrOfAll(t *testing.T) {
	ns := someInts()
	for n := int64(-9); n <= 9; n++ {
		ns = append(ns, n, math.MaxInt64-n*n, math.MinInt64+n*n)
	}
	for _, s := range []string{"", "a", "ab", "hello"} {
		for _, f := range ns {
			if v, err := Call("substr", list(text(s), num(f))); v != text(substrSlow(s, f, nil)) || err != api.OK {
				t.Fatalf("substr(%q, %d) = %v, error %d", s, f, v, err)
			}
			for _, n := range ns {
				if v, err := Call("substr", list(blob(s), num(f), num(n))); v != blob(substrSlow(s, f, []int64{n})) || err != api.OK {
					t.Fatalf("substr(%q, %d, %d) = %v, error %d", s, f, n, v, err)
				}
			}
		}
	}
}

// P2.4, R2: what is told is right, and nothing stands beside an error.
func TestCallTellsRightValues(t *testing.T) {
	check := func(name string, args []api.Value) {
		if v, err := Call(name, args); !Right(v) || err != api.OK && v != null {
			t.Errorf("%s%v = %v, error %d", name, shorts(args), short(v), err)
		}
	}
	some := list(null, num(0), num(-3), num(math.MinInt64), text("hello"), text("-2"), blob("\x00"), text(full(0)), api.Value{Kind: 4})
	for name := range names {
		check(name, nil)
		for _, a := range anyValues() {
			check(name, list(a))
			for _, b := range some {
				check(name, list(a, b))
				for _, c := range some {
					check(name, list(a, b, c))
				}
			}
		}
	}
}

// R6: no list and an empty one are the same.
func TestCallOfNoArguments(t *testing.T) {
	for name := range names {
		for _, args := range [][]api.Value{nil, {}} {
			v, err := Call(name, args)
			want(t, name+" of nothing", v, err, null, api.ErrFunc)
		}
	}
}

// R3: arguments are not changed, nor what stands in their spare room, and an answer stays what it is, whatever becomes of them.
func TestCallKeepsItsHandsOff(t *testing.T) {
	for _, c := range []struct {
		name string
		args []api.Value
	}{
		{"length", list(text("abc"))}, {"upper", list(text("abc"))}, {"lower", list(blob("ABC"))}, {"abs", list(num(-5))}, {"typeof", list(blob("a"))}, {"hex", list(text("abc"))},
		{"ifnull", list(null, text("b"))}, {"coalesce", list(null, null, text("b"), num(1))}, {"instr", list(text("abc"), text("c"))}, {"substr", list(text("abc"), num(2))}, {"substr", list(blob("abc"), num(-2), num(1))},
		{"substr", list(text("abc"))}, {"abs", list(num(math.MinInt64))}, {"upper", list(api.Value{Kind: 4})}, {"none", list(num(1))}, {"hex", list(text(full(0)))},
	} {
		whole := append(append([]api.Value{}, c.args...), text("spare"), num(7), num(8))
		args := whole[:len(c.args)]
		first, firstErr := Call(c.name, args)
		told := first
		second, secondErr := Call(c.name, args)
		if first != second || firstErr != secondErr {
			t.Errorf("%s%v: %v, error %d; then %v, error %d", c.name, shorts(c.args), first, firstErr, second, secondErr)
		}
		for i, v := range append(append([]api.Value{}, c.args...), text("spare"), num(7), num(8)) {
			if whole[i] != v {
				t.Errorf("%s%v changed the place %d", c.name, shorts(c.args), i)
			}
		}
		for i := range whole {
			whole[i] = blob("other")
		}
		if first != told {
			t.Errorf("%s%v: the answer shares what was handed in", c.name, shorts(c.args))
		}
		if again, err := Call(c.name, c.args); again != told || err != firstErr {
			t.Errorf("%s%v: something was kept: %v, error %d", c.name, shorts(c.args), again, err)
		}
	}
}
