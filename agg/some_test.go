package agg

import (
	"math/big"
	"slices"
	"strings"
	"testing"

	"cardindex/api"
	"cardindex/value"
)

// some_test.go: what the tests are made of; a twin of a total, that has all its values in a list and computes with big numbers.

var null = api.Value{}

func num(n int64) api.Value   { return api.Value{Kind: api.VInt, N: n} }
func text(s string) api.Value { return api.Value{Kind: api.VText, S: s} }
func blob(s string) api.Value { return api.Value{Kind: api.VBlob, S: s} }

// list is values, one behind the other.
func list(l ...api.Value) []api.Value { return l }

// times is n times v.
func times(n int, v api.Value) []api.Value { return slices.Repeat(list(v), n) }

// xs is n bytes.
func xs(n int) string { return strings.Repeat("x", n) }

// names is all names of totals.
func names() []string {
	return []string{"count", "count*", "sum", "total", "min", "max", "group_concat"}
}

// kind is how a total is made.
type kind struct {
	name     string
	distinct bool
}

// kinds is all totals that may be made.
func kinds() []kind {
	var all []kind
	for _, name := range names() {
		all = append(all, kind{name, false})
		if name != "count*" {
			all = append(all, kind{name, true})
		}
	}
	return all
}

// someValues: values of each kind, from the least one on; among them some of the same Int, and of the same Text.
func someValues() []api.Value {
	return list(null,
		num(-1<<63), num(-1<<63+1), num(-256), num(-2), num(-1), num(0), num(1), num(2), num(255), num(1<<62), num(1<<63-2), num(1<<63-1),
		text(""), text("\x00"), text("\x00\x00"), text(" -12ab"), text("+1"), text(","), text("-9223372036854775808"), text("-99999999999999999999"), text("1"), text("1,1"), text("1.0"), text("10"), text("9223372036854775807"), text("99999999999999999999"), text("a"), text("a\x00"), text("ab"), text("b"), text("\xff"),
		blob(""), blob("\x00"), blob("1"), blob("9223372036854775807"), blob("a"), blob("a\x00b"), blob("\xff"))
}

// wrongValues: of a kind that is none, with what their kind does not name, or too long.
func wrongValues() []api.Value {
	return list(
		api.Value{Kind: 4}, api.Value{Kind: 255}, api.Value{Kind: 4, N: 1, S: "a"}, api.Value{N: 1}, api.Value{S: "a"}, api.Value{Kind: api.VInt, S: "a"}, api.Value{Kind: api.VInt, N: 1, S: "a"},
		api.Value{Kind: api.VText, N: 1}, api.Value{Kind: api.VText, N: 1, S: "a"}, text(xs(api.MaxValue+1)), api.Value{Kind: api.VBlob, N: -1, S: "a"}, blob(xs(api.MaxValue+1)),
	)
}

// total is a new total without values.
func total(t *testing.T, k kind) *Acc {
	t.Helper()
	a, err := New(k.name, k.distinct)
	if err != api.OK || a == nil {
		t.Fatalf("New(%v): error %d", k, err)
	}
	return a
}

// step hands a values that are right.
func step(t *testing.T, a *Acc, values ...api.Value) {
	t.Helper()
	for _, v := range values {
		if err := a.Step(v); err != api.OK {
			t.Fatalf("Step(%s): error %d", short(v), err)
		}
	}
}

// is: a comes to that, as often as it is asked.
func is(t *testing.T, what string, a *Acc, want api.Value, wantErr api.Errno) {
	t.Helper()
	for range 2 {
		if v, err := a.Final(); v != want || err != wantErr {
			t.Fatalf("%s: %s, error %d, not %s, error %d", what, short(v), err, short(want), wantErr)
		}
	}
}

// hold hands values to a new total, and holds what it comes to on the way, and at the end, against its twin.
func hold(t *testing.T, k kind, values []api.Value) {
	t.Helper()
	a := total(t, k)
	for i, v := range values {
		if i < 20 || i%37 == 0 {
			want, err := twin(k, values[:i])
			is(t, k.name, a, want, err)
		}
		step(t, a, v)
	}
	want, err := twin(k, values)
	is(t, k.name, a, want, err)
}

// twin is what a total of these values comes to, said in another way.
func twin(k kind, values []api.Value) (api.Value, api.Errno) {
	l := counted(k, values)
	if k.name == "count" || k.name == "count*" {
		return num(int64(len(l))), api.OK
	}
	if len(l) == 0 {
		if k.name == "total" {
			return num(0), api.OK
		}
		return null, api.OK
	}
	switch k.name {
	case "min":
		return rising(l)[0], api.OK
	case "max":
		return rising(l)[len(l)-1], api.OK
	case "group_concat":
		return twinText(rising(l))
	}
	return twinSum(l)
}

// counted is what counts of values.
func counted(k kind, values []api.Value) []api.Value {
	var l []api.Value
	for _, v := range values {
		same := func(other api.Value) bool { return value.Compare(v, other) == 0 }
		if k.name == "count*" || v.Kind != api.VNull && !(k.distinct && slices.ContainsFunc(l, same)) {
			l = append(l, v)
		}
	}
	return l
}

// rising is l by rising values, each one put ahead of the first that it is not above.
func rising(l []api.Value) []api.Value {
	var out []api.Value
	for _, v := range l {
		at := 0
		for at < len(out) && value.Compare(v, out[at]) > 0 {
			at++
		}
		out = slices.Insert(out, at, v)
	}
	return out
}

// twinText is the Texts of l with commas between.
func twinText(l []api.Value) (api.Value, api.Errno) {
	out := ""
	for i, v := range l {
		if i > 0 {
			out += ","
		}
		out += value.Text(v)
		if len(out) > api.MaxValue {
			return null, api.ErrLong
		}
	}
	return text(out), api.OK
}

// twinSum is the Ints of l together.
func twinSum(l []api.Value) (api.Value, api.Errno) {
	sum := new(big.Int)
	for _, v := range l {
		sum.Add(sum, big.NewInt(value.Int(v)))
	}
	if !sum.IsInt64() {
		return null, api.ErrOver
	}
	return num(sum.Int64()), api.OK
}

// short is a value as it is told in a test's message.
func short(v api.Value) string {
	v.S = v.S[:min(len(v.S), 60)]
	return value.Show(v)
}

// chance tells numbers that look like none in particular, always the same.
type chance uint64

func (c *chance) below(n int) int {
	*c = *c*6364136223846793005 + 1442695040888963407
	return int(uint64(*c) >> 33 % uint64(n))
}
