package agg

import (
	"slices"
	"testing"

	"cardindex/api"
)

// follows_test.go: P8.3: a total hangs not on the order of its values, errors neither.

// someOf is up to that many values of a few, so that many are the same.
func someOf(next func(below int) int, most int) []api.Value {
	values := someValues()
	few := list()
	for range 1 + next(12) {
		few = append(few, values[next(len(values))])
	}
	l := make([]api.Value, next(most+1))
	for i := range l {
		l[i] = few[next(len(few))]
	}
	return l
}

// turnedAbout is values in another order.
func turnedAbout(next func(below int) int, values []api.Value) []api.Value {
	out := slices.Clone(values)
	for i := range out {
		j := i + next(len(out)-i)
		out[i], out[j] = out[j], out[i]
	}
	return out
}

// P8.3: values by chance, in some orders, held against the twin.
func TestWhateverIsHanded(t *testing.T) {
	c := chance(8)
	for range 600 {
		values := someOf(c.below, 40)
		for _, k := range kinds() {
			hold(t, k, values)
		}
		for _, other := range [][]api.Value{turnedAbout(c.below, values), reversed(values)} {
			for _, k := range kinds() {
				same(t, k, values, other)
			}
		}
	}
}

// reversed is values, the last one first.
func reversed(values []api.Value) []api.Value {
	out := slices.Clone(values)
	slices.Reverse(out)
	return out
}

// same: a total of values comes to the same in both orders.
func same(t *testing.T, k kind, one, other []api.Value) {
	t.Helper()
	a, b := total(t, k), total(t, k)
	step(t, a, one...)
	step(t, b, other...)
	want, err := a.Final()
	is(t, k.name, b, want, err)
}

// P8.3: all orders of up to four values of a few, among them such as are beyond 64 bits on the way, or at the end.
func TestAllOrdersOfFew(t *testing.T) {
	few := list(null, num(1<<63-1), num(-1<<63), num(1), text("-1"), text("a"), blob("a"))
	var grow func(values []api.Value)
	grow = func(values []api.Value) {
		for _, k := range kinds() {
			a := total(t, k)
			step(t, a, values...)
			want, err := twin(k, rising(values))
			is(t, k.name, a, want, err)
		}
		if len(values) == 4 {
			return
		}
		for _, v := range few {
			grow(append(values[:len(values):len(values)], v))
		}
	}
	grow(nil)
}

// P8.3: a text that is too long is so in each order, also where what makes it so comes first, or last.
func TestLongInAllOrders(t *testing.T) {
	third := api.MaxValue / 3
	for _, over := range []int{0, 1} {
		// With two commas that is MaxValue bytes, and over more.
		l := list(text(xs(third)), blob(xs(third)), text("y"+xs(api.MaxValue-2*third-3+over)))
		for _, distinct := range []bool{false, true} {
			k := kind{"group_concat", distinct}
			want, err := twin(k, l)
			if over == 0 != (err == api.OK) {
				t.Fatalf("over %d: error %d", over, err)
			}
			for range 3 {
				for range 2 {
					a := total(t, k)
					step(t, a, l...)
					is(t, k.name, a, want, err)
					l[0], l[1] = l[1], l[0]
				}
				l = append(l[1:], l[0])
			}
		}
	}
}

// P8.3: a sum of many, as many as are in a table and more: great ones first, small ones first, or mixed.
func TestSumOfMany(t *testing.T) {
	c := chance(3)
	var values []api.Value
	for i := range 1 << 16 {
		values = append(values, num(1<<63-1-int64(i)), num(-1<<63+int64(i)), num(int64(i%3)))
	}
	slices.SortFunc(values, func(a, b api.Value) int { return int(b.N>>32) - int(a.N>>32) })
	want, err := twinSum(values)
	if err != api.OK {
		t.Fatalf("error %d", err)
	}
	for _, l := range [][]api.Value{values, reversed(values), turnedAbout(c.below, values)} {
		for _, name := range []string{"sum", "total"} {
			a := total(t, kind{name, false})
			step(t, a, l...)
			is(t, name, a, want, api.OK)
		}
	}
}

// P8.3: values that nobody thought of.
func FuzzTotal(f *testing.F) {
	f.Add([]byte("some values are handed here, in some order"))
	f.Add([]byte{3, 1, 12, 1, 2, 1, 7, 9, 0, 1, 2, 0, 1, 2, 0, 0, 1})
	f.Fuzz(func(t *testing.T, b []byte) {
		next := func(below int) int {
			if len(b) == 0 {
				return 0
			}
			n := int(b[0]) % below
			b = b[1:]
			return n
		}
		values := someOf(next, 60)
		for i, v := range values { // and some strings of the bytes themselves
			if n := next(6); v.Kind >= api.VText && n <= len(b) {
				values[i].S = string(b[:n])
			}
		}
		other := turnedAbout(next, values)
		for _, k := range kinds() {
			hold(t, k, values)
			same(t, k, values, other)
		}
	})
}

// The twin is told apart from what it should not be: a check of the tests' own.
func TestTwin(t *testing.T) {
	values := list(text("b"), null, num(2), text("b"), num(1<<63-1), num(-1<<63))
	for k, want := range map[kind]api.Value{
		{"count", false}: num(5), {"count", true}: num(4), {"count*", false}: num(6), {"sum", false}: num(1), {"sum", true}: num(1), {"total", false}: num(1), {"total", true}: num(1),
		{"min", false}: num(-1 << 63), {"max", true}: text("b"),
		{"group_concat", false}: text("-9223372036854775808,2,9223372036854775807,b,b"), {"group_concat", true}: text("-9223372036854775808,2,9223372036854775807,b"),
	} {
		if v, err := twin(k, values); v != want || err != api.OK {
			t.Errorf("%v: %s, error %d", k, short(v), err)
		}
	}
	if v, err := twin(kind{"sum", false}, list(num(1<<63-1), num(1))); v != null || err != api.ErrOver {
		t.Errorf("%s, error %d", short(v), err)
	}
}
