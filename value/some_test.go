package value

import (
	"math"
	"strings"

	"cardindex/api"
)

// some_test.go: what the tests are made of.

var null = api.Value{}

func num(n int64) api.Value   { return api.Value{Kind: api.VInt, N: n} }
func text(s string) api.Value { return api.Value{Kind: api.VText, S: s} }
func blob(s string) api.Value { return api.Value{Kind: api.VBlob, S: s} }

// list is values as arguments.
func list(l ...api.Value) []api.Value { return l }

// full is as many bytes as a value may have, less some.
func full(less int) string { return strings.Repeat("x", api.MaxValue-less) }

// someInts: ordinary numbers, and those at which something wraps round.
func someInts() []int64 {
	return []int64{
		math.MinInt64, math.MinInt64 + 1, math.MinInt64 + 2, math.MinInt64 / 2, math.MinInt64/2 - 1,
		-1 << 32, -3037000500, -3037000499, -1<<31 - 1, -1000, -7, -3, -2, -1, 0, 1, 2, 3, 7, 10, 1000,
		1 << 31, 3037000499, 3037000500, 1 << 32,
		math.MaxInt64 / 2, math.MaxInt64/2 + 1, math.MaxInt64 - 2, math.MaxInt64 - 1, math.MaxInt64,
	}
}

// rightValues: NULL, numbers, texts and blobs, each of which is right.
func rightValues() []api.Value {
	l := []api.Value{null}
	for _, n := range someInts() {
		l = append(l, num(n))
	}
	for _, s := range []string{
		"", "0", "1", "a", "A", "ab", "aB", "b", " ", "  7", "-1", "+5", "-", "a1", "%", "_", "it's", "\x00", "\x00\x00", "\xff", "é",
		"9223372036854775807", "9223372036854775808", "-9223372036854775808", "-9223372036854775809", full(0),
	} {
		l = append(l, text(s), blob(s))
	}
	return l
}

// wrongValues: of kinds that are none, with what their kind does not name, or too long.
func wrongValues() []api.Value {
	return []api.Value{
		{Kind: 4}, {Kind: 255}, {Kind: 4, N: 1}, {Kind: 4, S: "a"}, {Kind: 255, N: -1, S: "1"},
		{N: 1}, {N: -1}, {S: "a"}, {N: 1, S: "a"}, {S: "\x00"},
		{Kind: api.VInt, S: "a"}, {Kind: api.VInt, N: 1, S: "1"},
		{Kind: api.VText, N: 1}, {Kind: api.VText, N: -1, S: "a"}, text(full(0) + "x"), {Kind: api.VText, N: math.MinInt64},
		{Kind: api.VBlob, N: 1}, {Kind: api.VBlob, N: -1, S: "a"}, blob(full(0) + "x"),
	}
}

// anyValues: right ones and wrong ones.
func anyValues() []api.Value { return append(rightValues(), wrongValues()...) }

// short is a value as it is told where a test fails.
func short(v api.Value) api.Value {
	if len(v.S) > 40 {
		v.S = v.S[:40] + ".."
	}
	return v
}

func shorts(l []api.Value) []api.Value {
	var out []api.Value
	for _, v := range l {
		out = append(out, short(v))
	}
	return out
}
