package agg

import (
	"strings"
	"testing"

	"cardindex/api"
)

// tally_test.go: P8.2: what totals come to, by their names.

// comes is what a total of values should come to.
type comes struct {
	name     string
	distinct bool
	values   []api.Value
	want     api.Value
	err      api.Errno
}

// all asks a new total of each.
func all(t *testing.T, cases []comes) {
	t.Helper()
	for i, c := range cases {
		a := total(t, kind{c.name, c.distinct})
		step(t, a, c.values...)
		v, err := a.Final()
		if v != c.want || err != c.err {
			t.Errorf("%d: %s, distinct %v: %s, error %d, not %s, error %d", i, c.name, c.distinct, short(v), err, short(c.want), c.err)
		}
	}
}

// P8.2: count of those that are not NULL, count* of all; of a distinct one values of one Int or Text are others if their kind is.
func TestCount(t *testing.T) {
	ones := list(num(1), text("1"), blob("1"), text("+1"), num(1), text("1"), blob("1"))
	all(t, []comes{
		{"count", false, nil, num(0), api.OK}, {"count", true, nil, num(0), api.OK}, {"count*", false, nil, num(0), api.OK},
		{"count", false, list(null), num(0), api.OK}, {"count", true, list(null, null), num(0), api.OK}, {"count*", false, list(null), num(1), api.OK}, {"count*", false, times(5, null), num(5), api.OK},
		{"count", false, times(5, num(0)), num(5), api.OK}, {"count", true, times(5, num(0)), num(1), api.OK}, {"count*", false, times(5, num(0)), num(5), api.OK},
		{"count", false, list(text(""), blob("")), num(2), api.OK}, {"count", true, list(text(""), blob(""), text(""), null), num(2), api.OK},
		{"count", false, ones, num(7), api.OK}, {"count", true, ones, num(4), api.OK}, {"count*", false, ones, num(7), api.OK},
		{"count", true, list(num(1), num(2), num(1), num(3), num(2), num(1)), num(3), api.OK},
		{"count", true, list(text("a"), text("A"), text("a\x00"), text("a ")), num(4), api.OK},
		{"count", false, times(100000, num(1)), num(100000), api.OK}, {"count*", false, times(100000, null), num(100000), api.OK},
	})
}

// P8.2: sum and total tell all Ints together, as an int; of nothing NULL the one, 0 the other.
func TestSum(t *testing.T) {
	for _, name := range []string{"sum", "total"} {
		all(t, []comes{
			{name, false, list(num(0)), num(0), api.OK}, {name, true, list(num(0)), num(0), api.OK},
			{name, false, list(num(1), num(2), num(3)), num(6), api.OK}, {name, false, list(num(-1), num(-2), num(3)), num(0), api.OK}, {name, false, list(num(5), null, num(-7)), num(-2), api.OK},
			{name, false, list(num(4), num(4), num(4)), num(12), api.OK}, {name, true, list(num(4), num(4), num(4)), num(4), api.OK}, {name, true, list(num(4), num(5), num(4), num(5)), num(9), api.OK},
			{name, false, list(text("a")), num(0), api.OK}, {name, false, list(text("")), num(0), api.OK}, {name, false, list(blob("")), num(0), api.OK},
			{name, false, list(text(" 12x"), blob("-2"), num(1)), num(11), api.OK}, {name, false, list(text("1.9"), text("1.9")), num(2), api.OK},
			{name, true, list(num(1), text("1"), blob("1"), text("+1"), text("1"), num(1)), num(4), api.OK},
			{name, false, list(text("99999999999999999999")), num(1<<63 - 1), api.OK}, {name, false, list(text("-99999999999999999999")), num(-1 << 63), api.OK},
			{name, false, times(1000, num(-3)), num(-3000), api.OK},
		})
	}
	for _, distinct := range []bool{false, true} {
		all(t, []comes{{"sum", distinct, nil, null, api.OK}, {"sum", distinct, list(null, null), null, api.OK}, {"total", distinct, nil, num(0), api.OK}, {"total", distinct, list(null, null), num(0), api.OK}})
	}
}

// P8.2: ErrOver just beyond 64 bits, on both sides, and far beyond.
func TestSumOver(t *testing.T) {
	const most, least = 1<<63 - 1, -1 << 63
	for _, name := range []string{"sum", "total"} {
		all(t, []comes{
			{name, false, list(num(most)), num(most), api.OK}, {name, false, list(num(least)), num(least), api.OK},
			{name, false, list(num(most), num(0)), num(most), api.OK}, {name, false, list(num(least), num(0)), num(least), api.OK},
			{name, false, list(num(most-1), num(1)), num(most), api.OK}, {name, false, list(num(least+1), num(-1)), num(least), api.OK},
			{name, false, list(num(most), num(1)), null, api.ErrOver}, {name, false, list(num(least), num(-1)), null, api.ErrOver},
			{name, false, list(num(1), num(most)), null, api.ErrOver}, {name, false, list(num(-1), num(least)), null, api.ErrOver},
			{name, false, list(num(most), num(least)), num(-1), api.OK}, {name, false, list(num(least), num(most), num(1)), num(0), api.OK},
			{name, false, list(num(most), num(most)), null, api.ErrOver}, {name, false, list(num(least), num(least)), null, api.ErrOver},
			{name, true, list(num(most), num(most)), num(most), api.OK}, {name, true, list(num(least), num(least)), num(least), api.OK},
			{name, true, list(num(most), num(1), num(most)), null, api.ErrOver}, {name, true, list(num(most), text("9223372036854775807")), null, api.ErrOver},
			{name, false, times(4, num(1<<62)), null, api.ErrOver}, {name, false, times(8, num(least)), null, api.ErrOver}, {name, false, times(2, num(least)), null, api.ErrOver},
			{name, false, append(times(1000, num(most)), times(1000, num(least))...), num(-1000), api.OK},
			{name, false, append(times(1000, num(least)), times(1000, num(most))...), num(-1000), api.OK},
			{name, false, append(times(1000, num(most)), times(999, num(least))...), num(1<<63 - 1000), api.OK},
			{name, false, append(times(1001, num(most)), times(999, num(least))...), null, api.ErrOver},
			{name, false, append(times(5, num(most)), append(times(4, num(-most)), num(-1))...), num(most - 1), api.OK},
			{name, false, list(text("99999999999999999999"), text("1")), null, api.ErrOver},
		})
	}
}

// P8.2: a sum that is beyond 64 bits may come back within, and go beyond again.
func TestSumComesBack(t *testing.T) {
	for _, name := range []string{"sum", "total"} {
		a := total(t, kind{name, false})
		for range 3 {
			step(t, a, num(1<<63-1))
			is(t, name, a, num(1<<63-1), api.OK)
			step(t, a, num(1))
			is(t, name, a, null, api.ErrOver)
			step(t, a, num(-1<<63))
			is(t, name, a, num(0), api.OK)
			step(t, a, num(-1<<63))
			is(t, name, a, num(-1<<63), api.OK)
			step(t, a, num(-1))
			is(t, name, a, null, api.ErrOver)
			step(t, a, num(1), num(1<<62), num(1<<62))
			is(t, name, a, num(0), api.OK)
		}
	}
}

// P8.2: the least one and the greatest one, by value.Compare, as they were handed; NULL of nothing.
func TestMinAndMax(t *testing.T) {
	values := someValues()[1:] // rising
	for _, distinct := range []bool{false, true} {
		all(t, []comes{
			{"min", distinct, nil, null, api.OK}, {"max", distinct, nil, null, api.OK}, {"min", distinct, list(null, null), null, api.OK}, {"max", distinct, list(null, null), null, api.OK},
			{"min", distinct, list(text("10"), text("9")), text("10"), api.OK}, {"max", distinct, list(text("10"), text("9")), text("9"), api.OK},
			{"min", distinct, list(blob("a"), text("b"), null), text("b"), api.OK}, {"max", distinct, list(blob("a"), text("b"), null), blob("a"), api.OK},
			{"min", distinct, list(text("a\x00"), text("a")), text("a"), api.OK}, {"max", distinct, list(text("a\x00"), text("a")), text("a\x00"), api.OK},
			{"min", distinct, list(text("")), text(""), api.OK}, {"max", distinct, list(text("")), text(""), api.OK}, {"max", distinct, list(num(0)), num(0), api.OK}, {"max", distinct, list(num(-5), num(-5)), num(-5), api.OK},
			{"min", distinct, list(blob("")), blob(""), api.OK}, {"max", distinct, list(text("\xff"), blob("")), blob(""), api.OK},
			{"min", distinct, list(text(xs(api.MaxValue)), text(xs(api.MaxValue-1))), text(xs(api.MaxValue - 1)), api.OK}, {"max", distinct, list(text(xs(api.MaxValue)), text(xs(api.MaxValue-1))), text(xs(api.MaxValue)), api.OK},
		})
		for i, low := range values {
			for _, high := range values[i:] {
				for _, l := range [][]api.Value{{low, high}, {high, low}, {null, high, low, high}, {low, null, high, low}, {low, high, null}} {
					all(t, []comes{{"min", distinct, l, low, api.OK}, {"max", distinct, l, high, api.OK}})
				}
			}
		}
	}
}

// P8.2: the Texts by rising values, not by rising Texts, with commas between, as a text.
func TestGroupConcat(t *testing.T) {
	for _, distinct := range []bool{false, true} {
		all(t, []comes{
			{"group_concat", distinct, nil, null, api.OK}, {"group_concat", distinct, list(null, null), null, api.OK},
			{"group_concat", distinct, list(text("")), text(""), api.OK}, {"group_concat", distinct, list(blob("")), text(""), api.OK}, {"group_concat", distinct, list(blob("a"), null), text("a"), api.OK}, {"group_concat", distinct, list(num(-5)), text("-5"), api.OK},
			{"group_concat", distinct, list(num(10), num(9), num(-1)), text("-1,9,10"), api.OK}, {"group_concat", distinct, list(text("10"), text("9"), text("-1")), text("-1,10,9"), api.OK},
			{"group_concat", distinct, list(blob("a"), text("b"), num(3), text("a"), num(20)), text("3,20,a,b,a"), api.OK},
			{"group_concat", distinct, list(text("b"), text(""), text("a")), text(",a,b"), api.OK}, {"group_concat", distinct, list(blob(""), text("")), text(","), api.OK},
			{"group_concat", distinct, list(text(","), text("a,b")), text(",,a,b"), api.OK}, {"group_concat", distinct, list(text("1"), num(1), blob("1")), text("1,1,1"), api.OK},
			{"group_concat", distinct, list(blob("\x00\xff"), num(-1<<63)), text("-9223372036854775808,\x00\xff"), api.OK},
		})
	}
	twice := list(text("b"), num(1), text("b"), null, text("a"), num(1), text("b"), null)
	all(t, []comes{
		{"group_concat", false, twice, text("1,1,a,b,b,b"), api.OK}, {"group_concat", true, twice, text("1,a,b"), api.OK},
		{"group_concat", false, times(3, text("")), text(",,"), api.OK}, {"group_concat", true, times(3, text("")), text(""), api.OK},
		{"group_concat", true, list(text("1"), num(1), blob("1"), text("1"), num(1), blob("1")), text("1,1,1"), api.OK},
	})
}

// P8.2: ErrLong just beyond MaxValue bytes, the commas among them.
func TestGroupConcatLong(t *testing.T) {
	half := api.MaxValue / 2
	for _, distinct := range []bool{false, true} {
		all(t, []comes{
			{"group_concat", distinct, list(text(xs(api.MaxValue))), text(xs(api.MaxValue)), api.OK}, {"group_concat", distinct, list(null, blob(xs(api.MaxValue)), null), text(xs(api.MaxValue)), api.OK},
			{"group_concat", distinct, list(text(xs(api.MaxValue)), text("")), null, api.ErrLong}, {"group_concat", distinct, list(text(""), text(xs(api.MaxValue-1))), text("," + xs(api.MaxValue-1)), api.OK},
			{"group_concat", distinct, list(text(xs(half-1)), text(xs(half))), text(xs(half-1) + "," + xs(half)), api.OK}, {"group_concat", distinct, list(text(xs(half)), blob(xs(half))), null, api.ErrLong},
			{"group_concat", distinct, list(text(xs(api.MaxValue-3)), num(10)), text("10," + xs(api.MaxValue-3)), api.OK}, {"group_concat", distinct, list(text(xs(api.MaxValue-3)), num(-10)), null, api.ErrLong},
			{"group_concat", distinct, list(text(xs(api.MaxValue)), blob(xs(api.MaxValue)), text("a")), null, api.ErrLong},
		})
	}
	commas := strings.Repeat(",", api.MaxValue)
	all(t, []comes{
		{"group_concat", false, times(api.MaxValue+1, text("")), text(commas), api.OK}, {"group_concat", false, times(api.MaxValue+2, text("")), null, api.ErrLong}, {"group_concat", true, times(api.MaxValue+2, text("")), text(""), api.OK},
		{"group_concat", false, times(2, text(xs(api.MaxValue))), null, api.ErrLong}, {"group_concat", true, times(2, text(xs(api.MaxValue))), text(xs(api.MaxValue)), api.OK},
		{"group_concat", false, times(half, num(1)), text(strings.Repeat("1,", half-1) + "1"), api.OK}, {"group_concat", false, times(half+1, num(1)), null, api.ErrLong},
	})
}

// P8.2: what is too long stays so, whatever follows.
func TestGroupConcatStaysLong(t *testing.T) {
	for _, distinct := range []bool{false, true} {
		a := total(t, kind{"group_concat", distinct})
		step(t, a, text(xs(api.MaxValue)), text("a"))
		for _, v := range append(someValues(), text(xs(api.MaxValue)), text("a")) {
			is(t, "group_concat", a, null, api.ErrLong)
			step(t, a, v)
		}
		is(t, "group_concat", a, null, api.ErrLong)
	}
}

// P8.2: a count has no error where a sum and a text have one, nor the least and the greatest one.
func TestNoErrorOfOthers(t *testing.T) {
	values := append(times(3, num(1<<63-1)), times(3, text(xs(api.MaxValue)))...)
	all(t, []comes{
		{"count", false, values, num(6), api.OK}, {"count", true, values, num(2), api.OK}, {"count*", false, values, num(6), api.OK},
		{"min", false, values, num(1<<63 - 1), api.OK}, {"max", false, values, text(xs(api.MaxValue)), api.OK},
		{"sum", false, values, null, api.ErrOver}, {"sum", true, values, num(1<<63 - 1), api.OK}, {"group_concat", true, values, null, api.ErrLong},
	})
}

// P8.2: Final changes nothing: what is handed behind it joins what was handed ahead.
func TestFinalChangesNothing(t *testing.T) {
	for _, k := range kinds() {
		hold(t, k, append(someValues(), someValues()...))
	}
}
