package value

import (
	"math"
	"testing"

	"cardindex/api"
)

// follows_test.go: P2.6, what follows (that Compare is an order stands beside Compare's tests).

// op is what a sign makes of two that it has no error of.
func op(t *testing.T, sign string, a, b api.Value) api.Value {
	t.Helper()
	v, err := Op(sign, a, b)
	if err != api.OK {
		t.Fatalf("%v %s %v: error %d", short(a), sign, short(b), err)
	}
	return v
}

func not(t *testing.T, a api.Value) api.Value {
	t.Helper()
	v, err := One("not", a)
	if err != api.OK {
		t.Fatalf("not %v: error %d", short(a), err)
	}
	return v
}

// P2.6: and, or may be turned about, put together otherwise, and distributed; not of the one is the other of nots.
func TestLogicFollows(t *testing.T) {
	l := list(null, num(0), num(1), num(-7), num(math.MinInt64), text(""), text("a"), text("2"), blob("\x00"), blob("3"))
	other := map[string]string{"and": "or", "or": "and"}
	for sign, dual := range other {
		for _, a := range l {
			for _, b := range l {
				if op(t, sign, a, b) != op(t, sign, b, a) {
					t.Errorf("%v %s %v is not to be turned about", a, sign, b)
				}
				if not(t, op(t, sign, a, b)) != op(t, dual, not(t, a), not(t, b)) {
					t.Errorf("not of %v %s %v is not %s of nots", a, sign, b, dual)
				}
				for _, c := range l {
					if op(t, sign, op(t, sign, a, b), c) != op(t, sign, a, op(t, sign, b, c)) {
						t.Errorf("%v %s %v %s %v is not to be put together otherwise", a, sign, b, sign, c)
					}
					if op(t, sign, a, op(t, dual, b, c)) != op(t, dual, op(t, sign, a, b), op(t, sign, a, c)) {
						t.Errorf("%v %s of %v %s %v is not distributed", a, sign, b, dual, c)
					}
				}
			}
		}
	}
	for _, a := range l {
		truth, known := Truth(a)
		want := null
		if known {
			want = flagValue(truth)
		}
		if not(t, not(t, a)) != want {
			t.Errorf("not not %v = %v", a, not(t, not(t, a)))
		}
	}
}

// P2.6: a sum less one of its parts is the other one.
func TestSumFollows(t *testing.T) {
	sums := 0
	for _, a := range someInts() {
		for _, b := range someInts() {
			sum, err := Op("+", num(a), num(b))
			if err != api.OK {
				continue
			}
			sums++
			if op(t, "-", sum, num(b)) != num(a) || op(t, "-", sum, num(a)) != num(b) {
				t.Errorf("%d + %d less one of them is not the other one", a, b)
			}
		}
	}
	if sums < len(someInts()) {
		t.Errorf("%d sums alone", sums)
	}
}

// P2.6: a quotient times what it is by, and the rest, is what was divided.
func TestQuotientFollows(t *testing.T) {
	for _, a := range someInts() {
		for _, b := range someInts() {
			quotient, err := Op("/", num(a), num(b))
			if b == 0 || err != api.OK {
				continue
			}
			rest := op(t, "%", num(a), num(b))
			if op(t, "+", op(t, "*", quotient, num(b)), rest) != num(a) {
				t.Errorf("%d / %d = %v, rest %v", a, b, quotient, rest)
			}
		}
	}
}

// P2.6: substr cut in two is all of it.
func TestSubstrFollows(t *testing.T) {
	call := func(args ...api.Value) api.Value {
		v, err := Call("substr", args)
		if err != api.OK {
			t.Fatalf("substr%v: error %d", args, err)
		}
		return v
	}
	for _, x := range list(text(""), text("a"), text("hello"), text("é\x00\xff"), num(-1234), num(0), blob("hello")) {
		for k := int64(0); k <= 7; k++ {
			if got := op(t, "||", call(x, num(1), num(k)), call(x, num(k+1))); got != text(Text(x)) {
				t.Errorf("%v cut behind %d: %v", x, k, got)
			}
			if got := op(t, "||", call(x, num(k+1), num(-9)), call(x, num(k+1), num(9))); got != text(Text(x)) {
				t.Errorf("%v cut at %d: %v", x, k+1, got)
			}
		}
	}
}
