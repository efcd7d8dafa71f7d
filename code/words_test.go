package code

import (
	"math"
	"strings"
	"testing"

	"cardindex/api"
	"cardindex/value"
)

// words_test.go: P15.1, how things are called.

// P15.1: the signs of OTwo; of each value.Op knows what to do.
func TestSign(t *testing.T) {
	all := strings.Fields("+ - * / % || = <> < <= > >= and or like")
	for d, want := range all {
		if s, is := Sign(d); s != want || !is {
			t.Errorf("%d: %q, %v", d, s, is)
		}
		if _, err := value.Op(want, num(6), num(2)); err != api.OK {
			t.Errorf("%s: error %d", want, err)
		}
	}
	for _, d := range []int{math.MinInt, -256, -1, len(all), 16, 256, 1 << 32, math.MaxInt} {
		if s, is := Sign(d); s != "" || is {
			t.Errorf("%d: %q, %v", d, s, is)
		}
	}
}

// P15.1: the functions of OCall; value.Known knows each.
func TestFunc(t *testing.T) {
	all := strings.Fields("length upper lower abs typeof hex ifnull instr substr coalesce")
	for d, want := range all {
		if s, is := Func(d); s != want || !is {
			t.Errorf("%d: %q, %v", d, s, is)
		}
		if !value.Known(want, 1) && !value.Known(want, 2) {
			t.Errorf("%s is not known", want)
		}
	}
	for _, d := range []int{math.MinInt, -256, -1, len(all), 11, 256, 1 << 32, math.MaxInt} {
		if s, is := Func(d); s != "" || is {
			t.Errorf("%d: %q, %v", d, s, is)
		}
	}
}

// P15.1: the Ops' words: as the chapter's table has them, in the order of their numbers; nothing of none.
func TestWord(t *testing.T) {
	for o := range 256 {
		want := ""
		if o > 0 && o < len(cells) {
			want = strings.ToLower(strings.TrimPrefix(cells[o][0], "O"))
		}
		if got := Word(api.Op(o)); got != want {
			t.Errorf("%d: %q, not %q", o, got, want)
		}
	}
	for word, o := range map[string]api.Op{"const": api.OConst, "two": api.OTwo, "if": api.OIf, "differ": api.ODiffer, "rowid": api.ORowid, "newid": api.ONewId, "total": api.OTotal, "back": api.OBack, "halt": api.OHalt} {
		if got := Word(o); got != word {
			t.Errorf("%d: %q, not %q", o, got, word)
		}
	}
}

// P15.1: instructions as they are shown, whatever they are.
func TestShow(t *testing.T) {
	for _, c := range []struct {
		i    api.Instr
		want string
	}{
		{halt, "halt 0 0 0 0"},
		{ins(api.OConst, 1, 2), "const 1 2 0 0"},
		{ins(api.OTwo, 2, 0, 1, 6), "two 2 0 1 6"},
		{ins(api.ONewId, 10, 200, 3000, 40000), "newid 10 200 3000 40000"},
		{ins(api.OMove, -1, -20, math.MinInt, math.MaxInt), "move -1 -20 -9223372036854775808 9223372036854775807"},
		{api.Instr{}, "op0 0 0 0 0"},
		{ins(36), "op36 0 0 0 0"},
		{ins(99, -1), "op99 -1 0 0 0"},
		{ins(255, 1, 2, 3, 4), "op255 1 2 3 4"},
	} {
		if got := Show(c.i); got != c.want {
			t.Errorf("%v: %q, not %q", c.i, got, c.want)
		}
	}
}
