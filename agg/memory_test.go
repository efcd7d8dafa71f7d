package agg

import (
	"testing"
	"unsafe"

	"cardindex/api"
)

// memory_test.go: totals are apart; R5, objects that are none.

// R4: totals are apart: what one is handed, the other one does not see, also where both are of one name.
func TestTotalsAreApart(t *testing.T) {
	for _, k := range kinds() {
		one, two := total(t, k), total(t, k)
		var ones, twos []api.Value
		for i, v := range someValues() {
			if i%3 == 0 {
				ones = append(ones, v)
				step(t, one, v)
			} else {
				twos = append(twos, v)
				step(t, two, v)
			}
			want, err := twin(k, ones)
			is(t, k.name, one, want, err)
			want, err = twin(k, twos)
			is(t, k.name, two, want, err)
		}
		one.Reset()
		want, err := twin(k, twos)
		is(t, k.name, two, want, err)
		step(t, one, num(5))
		want, err = twin(k, list(num(5)))
		is(t, k.name, one, want, err)
	}
}

// R3: no memory of what is handed in is kept: neither of values that are new, nor of those that were there.
func TestWhatIsHandedIsNotKept(t *testing.T) {
	for _, k := range kinds() {
		a := total(t, k)
		words := []string{"12m", "12m", "34m", "12m", "1m", "56m", "1m"}
		var values []api.Value
		for _, word := range words {
			values = append(values, text(word))
			memory := []byte(word)
			step(t, a, text(unsafe.String(&memory[0], len(memory))))
			for i := range memory {
				memory[i] = '0'
			}
			want, err := twin(k, values)
			is(t, k.name, a, want, err)
		}
	}
}

// R3: what was told stays what it is, whatever is handed then.
func TestWhatIsToldStays(t *testing.T) {
	for _, k := range kinds() {
		a := total(t, k)
		step(t, a, text("m"), num(3))
		got, err := a.Final()
		step(t, a, text("z"), num(-9), blob("a"))
		a.Reset()
		step(t, a, text("other"))
		if want, wantErr := twin(k, list(text("m"), num(3))); got != want || err != wantErr {
			t.Errorf("%v: %s, error %d", k, short(got), err)
		}
	}
}

// R5: a total that no call made answers zeros, and ErrNil, ahead of all other errors; it may be reset, which is nothing.
func TestNoTotal(t *testing.T) {
	for _, k := range kinds() {
		whole := total(t, k)
		step(t, whole, num(2), text("a"))
		copied := *whole
		for name, a := range map[string]*Acc{"nil": nil, "none": {}, "new": new(Acc), "a copy": &copied} {
			for range 2 {
				for _, v := range append(wrongValues(), null, num(1), text("b")) {
					if err := a.Step(v); err != api.ErrNil {
						t.Errorf("%s: Step(%s): error %d", name, short(v), err)
					}
				}
				if v, err := a.Final(); v != null || err != api.ErrNil {
					t.Errorf("%s: Final: %s, error %d", name, short(v), err)
				}
				a.Reset()
			}
		}
		want, err := twin(k, list(num(2), text("a")))
		is(t, k.name, whole, want, err)
	}
}

// R2: nothing stands beside an error, and what is told is right.
func TestNothingBesideErrors(t *testing.T) {
	a := total(t, kind{"sum", false})
	step(t, a, num(1<<63-1), num(7))
	is(t, "sum", a, null, api.ErrOver)
	a = total(t, kind{"group_concat", false})
	step(t, a, text(xs(api.MaxValue)), text("a"))
	is(t, "group_concat", a, null, api.ErrLong)
	if a, err := New("none", false); a != nil || err == api.OK {
		t.Errorf("%v, error %d", a, err)
	}
}
