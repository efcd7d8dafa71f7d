package agg

import (
	"testing"

	"cardindex/api"
)

// agg_test.go: P8.1: totals known and made, values handed to them; the chapter's examples.

// otherNames: of no total.
func otherNames() []string {
	return []string{"", "*", "avg", "Count", "COUNT", "count ", " count", "count(*)", "count**", "*count", "coun", "counts", "su", "sums", "SUM", "sum*", "total*", "min*", "max*", "group_concat*", "group", "concat", "group_conca", "group_concats", "group-concat", "totals", "minimum", "maximum", "sum\x00", "\x00", "length", "coalesce"}
}

// P8.1: which names there are.
func TestKnown(t *testing.T) {
	for range 2 {
		for _, name := range names() {
			if !Known(name) {
				t.Errorf("%q is not known", name)
			}
		}
		for _, name := range otherNames() {
			if Known(name) {
				t.Errorf("%q is known", name)
			}
		}
	}
}

// P8.1: each total of a name that is known is made, distinct or not, but count* is not distinct; new ones have no values.
func TestNew(t *testing.T) {
	for _, k := range kinds() {
		a := total(t, k)
		want := map[string]api.Value{"count": num(0), "count*": num(0), "total": num(0)}[k.name]
		is(t, k.name, a, want, api.OK)
		if other := total(t, k); other == a {
			t.Errorf("%v: one that was made already", k)
		}
	}
}

// P8.1: ErrFunc of a name that is none, whether it is to be distinct or not; ErrArg of a distinct count*.
func TestNewRefused(t *testing.T) {
	for _, name := range otherNames() {
		for _, distinct := range []bool{false, true} {
			if a, err := New(name, distinct); a != nil || err != api.ErrFunc {
				t.Errorf("New(%q, %v): %v, error %d", name, distinct, a, err)
			}
		}
	}
	if a, err := New("count*", true); a != nil || err != api.ErrArg {
		t.Errorf("%v, error %d", a, err)
	}
}

// P8.1: each right value is taken, the longest ones, too.
func TestStep(t *testing.T) {
	longest := list(text(xs(api.MaxValue)), blob(xs(api.MaxValue)))
	for _, k := range kinds() {
		a := total(t, k)
		for _, v := range append(someValues(), longest...) {
			step(t, a, v, v)
		}
	}
}

// P8.1, R2: a value that is not right is refused, and then is not among its values.
func TestStepRefused(t *testing.T) {
	for _, k := range kinds() {
		a := total(t, k)
		var values []api.Value
		for _, v := range append(list(num(7)), someValues()...) {
			for _, wrong := range wrongValues() {
				if err := a.Step(wrong); err != api.ErrArg {
					t.Fatalf("%v: Step(%v): error %d", k, short(wrong), err)
				}
			}
			want, err := twin(k, values)
			is(t, k.name, a, want, err)
			values = append(values, v)
			step(t, a, v)
		}
		want, err := twin(k, values)
		is(t, k.name, a, want, err)
	}
}

// P8.1: it is refused, also where what was handed already is an error, or can't change any more.
func TestStepRefusedBehindErrors(t *testing.T) {
	for k, values := range map[kind][]api.Value{
		{"sum", false}:          list(num(1<<63-1), num(1)),
		{"total", true}:         list(num(-1<<63), num(-1)),
		{"group_concat", false}: list(text(xs(api.MaxValue)), num(1)),
		{"group_concat", true}:  list(text(xs(api.MaxValue)), num(1)),
	} {
		a := total(t, k)
		step(t, a, values...)
		_, before := a.Final()
		for _, wrong := range wrongValues() {
			if err := a.Step(wrong); err != api.ErrArg {
				t.Errorf("%v: error %d", k, err)
			}
		}
		step(t, a, null)
		is(t, k.name, a, null, before)
	}
}

// P8.1: behind Reset it is as a new one, whatever it was handed, and as often as that is done.
func TestReset(t *testing.T) {
	pasts := [][]api.Value{nil, list(null), list(num(1), num(1), text("a")), someValues(), list(num(1<<63-1), num(1)), list(num(-1<<63), num(-1)), list(text(xs(api.MaxValue)), text("b")), times(api.MaxValue, text("a"))}
	behinds := [][]api.Value{nil, list(null), list(num(5), num(5)), list(num(1), text("a"), num(1)), list(blob("b"), text("a"), null)}
	for _, k := range kinds() {
		a := total(t, k)
		for _, past := range pasts {
			for _, behind := range behinds {
				step(t, a, past...)
				a.Final()
				a.Reset()
				want, err := twin(k, nil)
				is(t, k.name, a, want, err)
				a.Reset()
				step(t, a, behind...)
				want, err = twin(k, behind)
				is(t, k.name, a, want, err)
				a.Reset()
			}
		}
	}
}

// P8.1: behind Reset a total has its name, and is distinct or not, as it was made.
func TestResetKeepsTheKind(t *testing.T) {
	for _, k := range kinds() {
		a := total(t, k)
		a.Reset()
		step(t, a, num(3), text("b"), null, num(3))
		want, err := twin(k, list(num(3), text("b"), null, num(3)))
		is(t, k.name, a, want, err)
	}
}

// The chapter's examples.
func TestExamples(t *testing.T) {
	for _, c := range []struct {
		kind
		values []api.Value
		want   api.Value
		err    api.Errno
	}{
		{kind{"sum", false}, list(num(1<<63-1), num(1), num(-5)), num(1<<63 - 5), api.OK},
		{kind{"sum", false}, list(num(1<<63-1), num(1)), null, api.ErrOver},
		{kind{"sum", false}, nil, null, api.OK},
		{kind{"total", false}, nil, num(0), api.OK},
		{kind{"count", false}, list(num(1), null, num(1)), num(2), api.OK},
		{kind{"count", true}, list(num(1), null, num(1)), num(1), api.OK},
		{kind{"count*", false}, list(num(1), null, num(1)), num(3), api.OK},
		{kind{"min", false}, list(text("a"), num(5), null), num(5), api.OK},
		{kind{"max", false}, list(text("a"), num(5), null), text("a"), api.OK},
		{kind{"group_concat", false}, list(text("b"), null, num(1)), text("1,b"), api.OK},
	} {
		a := total(t, c.kind)
		step(t, a, c.values...)
		is(t, c.name, a, c.want, c.err)
	}
}
