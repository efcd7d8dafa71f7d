package code

import (
	"fmt"
	"slices"
	"strings"
	"testing"

	"cardindex/api"
)

// some_test.go: what the tests are made of.

var null = api.Value{}

func num(n int64) api.Value   { return api.Value{Kind: api.VInt, N: n} }
func text(s string) api.Value { return api.Value{Kind: api.VText, S: s} }
func blob(s string) api.Value { return api.Value{Kind: api.VBlob, S: s} }

// list is values as constants.
func list(l ...api.Value) []api.Value { return l }

// longest is more bytes than a value may have. It is made once, as many tests ask for some of it.
var longest = strings.Repeat("x", api.MaxValue+1)

// xs is so many bytes.
func xs(n int) string { return longest[:n] }

// wrongValues is such as layer 2 says are none.
func wrongValues() []api.Value {
	return list(api.Value{Kind: 4}, api.Value{Kind: 255, N: 1, S: "1"}, api.Value{N: 1}, api.Value{S: "a"}, api.Value{Kind: api.VInt, N: 3, S: "a"},
		api.Value{Kind: api.VText, N: 1}, api.Value{Kind: api.VBlob, N: -1, S: "1"}, text(xs(api.MaxValue+1)), blob(xs(api.MaxValue+1)))
}

// ins is an instruction; what is not given is 0.
func ins(o api.Op, fields ...int) api.Instr {
	all := append(slices.Clone(fields), 0, 0, 0, 0)
	return api.Instr{Op: o, A: all[0], B: all[1], C: all[2], D: all[3]}
}

var halt = ins(api.OHalt)

// least is a program of so many registers, and these instructions.
func least(regs int, code ...api.Instr) api.Prog {
	return api.Prog{Version: 1, Regs: regs, Code: code}
}

// rich is a program that has something of all there is, of each another number; its instructions are ends alone.
func rich() api.Prog {
	return api.Prog{
		Version: 300, Regs: 5, Binds: 3,
		Names:   []string{"a", ""},
		Consts:  list(text("x"), null, num(-7), text(""), blob("x")),
		Cursors: []api.Cur{{Name: "t", Write: true}, {Name: "t"}, {Name: "i", Index: true}, {Name: "u", Write: true}},
		Sorters: []api.Sort{{Desc: []bool{true, false, false}, Cols: 4, Distinct: true}, {Cols: 1}, {Desc: []bool{true}, Cols: 2}},
		Totals:  []api.Acc{{Func: "sum", Distinct: true}, {Func: "count*"}},
		Code:    slices.Repeat([]api.Instr{halt}, 7),
	}
}

// with is p, changed by what is done to a copy of it.
func with(p api.Prog, change func(p *api.Prog)) api.Prog {
	p = copyOf(p)
	change(&p)
	return p
}

// at is p with another instruction at a place.
func at(p api.Prog, place int, i api.Instr) api.Prog {
	return with(p, func(p *api.Prog) { p.Code[place] = i })
}

// copyOf is p in memory of its own.
func copyOf(p api.Prog) api.Prog {
	p.Names = slices.Clone(p.Names)
	p.Consts = slices.Clone(p.Consts)
	p.Cursors = slices.Clone(p.Cursors)
	p.Sorters = slices.Clone(p.Sorters)
	for i := range p.Sorters {
		p.Sorters[i].Desc = slices.Clone(p.Sorters[i].Desc)
	}
	p.Totals = slices.Clone(p.Totals)
	p.Code = slices.Clone(p.Code)
	return p
}

// same: are two programs the same, by R6?
func same(a, b api.Prog) bool {
	return a.Version == b.Version && a.Regs == b.Regs && a.Binds == b.Binds &&
		slices.Equal(a.Names, b.Names) && slices.Equal(a.Consts, b.Consts) && slices.Equal(a.Cursors, b.Cursors) &&
		slices.EqualFunc(a.Sorters, b.Sorters, func(a, b api.Sort) bool {
			return slices.Equal(a.Desc, b.Desc) && a.Cols == b.Cols && a.Distinct == b.Distinct
		}) &&
		slices.Equal(a.Totals, b.Totals) && slices.Equal(a.Code, b.Code)
}

// isNone: is nothing told of a program?
func isNone(p api.Prog) bool { return same(p, api.Prog{}) }

// show is a program as it is told where a test fails.
func show(p api.Prog) string {
	s := fmt.Sprintf("%+v", p)
	return s[:min(len(s), 1000)]
}

// checks asks whether a program may be one: by Check and Bytes, and, where it may, by Read of its bytes.
func checks(t *testing.T, what string, p api.Prog, want bool) {
	t.Helper()
	err := api.ErrCode
	if want {
		err = api.OK
	}
	if got := Check(p); got != err {
		t.Errorf("%s: error %d, not %d: %s", what, got, err, show(p))
	}
	b, got := Bytes(p)
	if got != err {
		t.Errorf("%s: error %d of Bytes, not %d", what, got, err)
	}
	if want && got == api.OK {
		if q, got := Read(b); got != api.OK || !same(p, q) {
			t.Errorf("%s: error %d, %s is read, not %s", what, got, show(q), show(p))
		}
	}
}

// chance is a row of numbers that is always the same one.
type chance uint64

func newChance(seed uint64) *chance {
	c := chance(seed*2862933555777941757 + 3037000493)
	return &c
}

// below is a number from 0 up to n, n not among them.
func (c *chance) below(n int) int {
	*c = *c*6364136223846793005 + 1442695040888963407
	return int(uint64(*c)>>33) % n
}

// one: does it come about, as it does once of so many times?
func (c *chance) one(of int) bool { return c.below(of) == 0 }

// oneOf is one of a list.
func oneOf[T any](c *chance, list ...T) T { return list[c.below(len(list))] }
