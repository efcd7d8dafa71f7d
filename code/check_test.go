package code

import (
	"fmt"
	"math"
	"slices"
	"testing"

	"cardindex/api"
)

// check_test.go: P15.1, what may be a program.

// P15.1: the chapter's examples.
func TestExamples(t *testing.T) {
	if got := Show(ins(api.OTwo, 2, 0, 1, 6)); got != "two 2 0 1 6" {
		t.Error(got)
	}
	checks(t, "halt", least(1, halt), true)
	checks(t, "jump 0", least(1, ins(api.OJump, 0), halt), false)
	checks(t, "jump 1", least(1, ins(api.OJump, 1), halt), true)
}

// P15.1: numbers and lists of a program, each as little and as much as may be, and past that.
func TestProgramsHaveTheirLimits(t *testing.T) {
	for _, c := range []struct {
		what   string
		right  []int
		wrong  []int
		change func(p *api.Prog, n int)
	}{
		{"Version", []int{1, 2, 1<<40 - 1, 1 << 40}, []int{math.MinInt, -1, 0, 1<<40 + 1, math.MaxInt}, func(p *api.Prog, n int) { p.Version = n }},
		{"Regs", []int{1, 2, 249, 250}, []int{math.MinInt, -1, 0, 251, 256 + 1, math.MaxInt}, func(p *api.Prog, n int) { p.Regs = n }},
		{"Binds", []int{0, 1, 999, 1000}, []int{math.MinInt, -1, 1001, math.MaxInt}, func(p *api.Prog, n int) { p.Binds = n }},
		{"Names", []int{0, 1, 199, 200}, []int{201, 400}, func(p *api.Prog, n int) { p.Names = make([]string, n) }},
		{"bytes of a name", []int{0, 1, 199, 200}, []int{201, 65536}, func(p *api.Prog, n int) { p.Names = []string{"a", xs(n), "b"} }},
		{"Consts", []int{0, 1, 999, 1000}, []int{1001, 2000}, func(p *api.Prog, n int) { p.Consts = make([]api.Value, n) }},
		{"bytes of a const", []int{0, 1, 65535, 65536}, []int{65537}, func(p *api.Prog, n int) { p.Consts = list(null, text(xs(n)), null) }},
		{"Cursors", []int{0, 1, 11, 12}, []int{13, 24}, func(p *api.Prog, n int) { p.Cursors = slices.Repeat([]api.Cur{{Name: "t"}}, n) }},
		{"bytes of a cursor's name", []int{1, 2, 199, 200}, []int{0, 201, 65536}, func(p *api.Prog, n int) { p.Cursors = []api.Cur{{Name: "t"}, {Name: xs(n)}, {Name: "t"}} }},
		{"Sorters", []int{0, 1, 5, 6}, []int{7, 12}, func(p *api.Prog, n int) { p.Sorters = slices.Repeat([]api.Sort{{Cols: 1}}, n) }},
		{"flags", []int{0, 1, 29, 30}, []int{31, 60}, func(p *api.Prog, n int) { p.Sorters = []api.Sort{{Cols: 1}, {Desc: make([]bool, n), Cols: 1}} }},
		{"Cols", []int{1, 2, 59, 60}, []int{math.MinInt, -1, 0, 61, math.MaxInt}, func(p *api.Prog, n int) { p.Sorters = []api.Sort{{Cols: 1}, {Cols: n}} }},
		{"Totals", []int{0, 1, 59, 60}, []int{61, 120}, func(p *api.Prog, n int) { p.Totals = slices.Repeat([]api.Acc{{Func: "sum"}}, n) }},
		{"Code", []int{1, 2, 3999, 4000}, []int{0, 4001, 8000}, func(p *api.Prog, n int) { p.Code = slices.Repeat([]api.Instr{halt}, n) }},
	} {
		for _, n := range c.right {
			checks(t, fmt.Sprint(c.what, n), with(least(1, halt), func(p *api.Prog) { c.change(p, n) }), true)
		}
		for _, n := range c.wrong {
			checks(t, fmt.Sprint(c.what, n), with(least(1, halt), func(p *api.Prog) { c.change(p, n) }), false)
		}
	}
	checks(t, "no program", api.Prog{}, false)
	checks(t, "rich", rich(), true)
}

// P15.1: constants are right values, whichever of them it is.
func TestConstsAreRight(t *testing.T) {
	right := list(null, num(0), num(math.MinInt64), num(math.MaxInt64), text(""), text("it's\x00"), blob(""), blob("\xff"), text(xs(api.MaxValue)), blob(xs(api.MaxValue)))
	checks(t, "right", with(rich(), func(p *api.Prog) { p.Consts = right }), true)
	for i, v := range wrongValues() {
		for place := range 3 {
			checks(t, fmt.Sprint("wrong ", i), with(least(1, halt), func(p *api.Prog) {
				p.Consts = list(null, num(1), text("a"))
				p.Consts[place] = v
			}), false)
		}
	}
}

// P15.1: a cursor of an index is not written; a name is bytes.
func TestCursors(t *testing.T) {
	for _, c := range []struct {
		cur  api.Cur
		want bool
	}{
		{api.Cur{Name: "t"}, true},
		{api.Cur{Name: "t", Write: true}, true},
		{api.Cur{Name: "i", Index: true}, true},
		{api.Cur{Name: "#t_a", Index: true}, true},
		{api.Cur{Name: "\x00\xff"}, true},
		{api.Cur{Name: "i", Index: true, Write: true}, false},
		{api.Cur{}, false},
	} {
		for place := range 3 {
			checks(t, fmt.Sprint(c.cur), with(least(1, halt), func(p *api.Prog) {
				p.Cursors = []api.Cur{{Name: "t"}, {Name: "t"}, {Name: "i", Index: true}}
				p.Cursors[place] = c.cur
			}), c.want)
		}
	}
}

// P15.1: totals are those that agg.New takes.
func TestTotals(t *testing.T) {
	for _, name := range append(totals, "", "Sum", "sum ", "avg", "count(*)", "length", "count\x00", xs(70000/2)) {
		for _, distinct := range []bool{false, true} {
			want := slices.Contains(totals, name) && !(distinct && name == "count*")
			for place := range 3 {
				checks(t, fmt.Sprint(name, distinct), with(least(1, halt), func(p *api.Prog) {
					p.Totals = slices.Repeat([]api.Acc{{Func: "count*"}}, 3)
					p.Totals[place] = api.Acc{Func: name, Distinct: distinct}
				}), want)
			}
		}
	}
}

// P15.1: the last instruction is OHalt, others may be; what stands where no way leads has what its Op has, too.
func TestTheLastOneHalts(t *testing.T) {
	move := ins(api.OMove)
	checks(t, "nothing", least(1), false)
	checks(t, "move", least(1, move), false)
	checks(t, "halt, move", least(1, halt, move), false)
	checks(t, "move, halt", least(1, move, halt), true)
	checks(t, "halt, move, halt", least(1, halt, move, halt), true)
	checks(t, "halt, wrong, halt", least(1, halt, ins(api.OMove, 1), halt), false)
	checks(t, "halt with a field", least(1, ins(api.OHalt, 0, 0, 1)), false)
	checks(t, "a jump, at the end", least(1, move, ins(api.OJump, 1)), false)
}

// P15.1: what defines, begins and ends is the first one of two.
func TestAloneAheadOfTheEnd(t *testing.T) {
	for _, o := range alone {
		i := ins(o)
		for what, c := range map[string]struct {
			code []api.Instr
			want bool
		}{
			"of two":          {[]api.Instr{i, halt}, true},
			"of one":          {[]api.Instr{i}, false},
			"last of two":     {[]api.Instr{halt, i}, false},
			"twice":           {[]api.Instr{i, i}, false},
			"of three":        {[]api.Instr{i, halt, halt}, false},
			"second":          {[]api.Instr{halt, i, halt}, false},
			"twice, of three": {[]api.Instr{i, i, halt}, false},
		} {
			p := least(1, c.code...)
			p.Consts = list(text("begin"))
			checks(t, fmt.Sprint(o, what), p, c.want)
			p = with(rich(), func(p *api.Prog) { p.Code = c.code })
			checks(t, fmt.Sprint(o, what), p, c.want)
		}
	}
	for place, want := range []bool{true, false, false, true, false, false} {
		checks(t, fmt.Sprint("the const ", place), with(rich(), func(p *api.Prog) { p.Code = []api.Instr{ins(api.ODefine, place), halt} }), want)
	}
}

// heldTo asks whether Check takes just what the twin takes.
func heldTo(t *testing.T, what string, p api.Prog) bool {
	t.Helper()
	want := mayBeOne(p)
	if got := Check(p); (got == api.OK) != want || got != api.OK && got != api.ErrCode {
		t.Fatalf("%s: error %d, not taken is %v: %s", what, got, !want, show(p))
	}
	return want
}

// P15.1: of each Op, and of what is none, all fields that are near what may be; held against the chapter's table.
func TestFieldsOfEachOp(t *testing.T) {
	p := rich()
	const place = 3
	for o := range api.Op(len(cells) + 4) {
		took := 0
		for n := range 9 * 9 * 9 * 8 {
			i := ins(o, n%9-1, n/9%9-1, n/81%9-1, n/729%8-1)
			want := hasWhatItHas(p, place, i) && !slices.Contains(alone, o)
			if want {
				took++
			}
			p.Code[place] = i
			if got := Check(p); (got == api.OK) != want {
				t.Fatalf("%s at %d: error %d", Show(i), place, got)
			}
		}
		if took == 0 && o >= 1 && int(o) < len(cells) && !slices.Contains(alone, o) {
			t.Errorf("%d: none is taken", o)
		}
	}
}

// P15.1: the same of the first one of two.
func TestFieldsOfTheFirstOfTwo(t *testing.T) {
	p := rich()
	p.Code = p.Code[:2]
	for o := range api.Op(len(cells)) {
		for n := range 4 * 4 * 4 * 4 {
			i := ins(o, n%4-1, n/4%4-1, n/16%4-1, n/64%4-1)
			p.Code[0] = i
			if got := Check(p); (got == api.OK) != hasWhatItHas(p, 0, i) {
				t.Fatalf("%s, the first of two: error %d", Show(i), got)
			}
		}
	}
}

// edges is numbers where a field may go over to what may not be, and such as are as they are in fewer bits.
var edges = []int{math.MinInt, -1 << 32, -1, 0, 1, 9, 10, 14, 15, 29, 30, 31, 32, 59, 60, 99, 100, 101, 150, 151, 190, 191, 220, 221, 249, 250, 257, 1<<32 + 1, math.MaxInt}

// P15.1: fields as great as may be, and far past that: of each Op each two fields are edges, where the others are such as may be.
func TestEdgesOfEachOp(t *testing.T) {
	p := rich()
	p.Regs, p.Binds = 250, 100
	p.Names = make([]string, 60)
	p.Consts = append(make([]api.Value, 99), text("x"))
	p.Sorters = append(p.Sorters, api.Sort{Desc: make([]bool, 30), Cols: 60})
	p.Code = slices.Repeat([]api.Instr{halt}, 32)
	const place = 14
	c := newChance(1)
	for o := range api.Op(len(cells)) {
		var others [4]int
		for k := range others {
			if o > 0 {
				all := taken(cells[o][k+1], p, place, ins(o, others[:]...))
				others[k] = all[c.below(min(len(all), 4))]
			}
		}
		for n := range 6 * len(edges) * len(edges) {
			one, two := []int{0, 0, 0, 1, 1, 2}[n%6], []int{1, 2, 3, 2, 3, 3}[n%6]
			fields := others
			fields[one], fields[two] = edges[n/6%len(edges)], edges[n/6/len(edges)]
			i := ins(o, fields[:]...)
			p.Code[place] = i
			want := hasWhatItHas(p, place, i) && !slices.Contains(alone, o)
			if got := Check(p); (got == api.OK) != want {
				t.Fatalf("%s at %d: error %d", Show(i), place, got)
			}
		}
	}
}

// P15.1: functions have as many arguments as layer 2 says; the last ones may be the last register.
func TestCallsAreKnown(t *testing.T) {
	p := rich()
	p.Regs = 110
	for d := range arities {
		for args := range 112 {
			for _, b := range []int{0, 109, 109 - args, 110 - args, 111 - args} {
				want := args >= arities[d][0] && args <= arities[d][1] && b >= 0 && b+args <= 110
				if i := ins(api.OCall, 0, b, args, d); (Check(at(p, 3, i)) == api.OK) != want {
					t.Fatal(Show(i))
				}
			}
		}
	}
}

// P15.1: jumps go further on, loops back, also from the first place, and to the last one.
func TestWaysOn(t *testing.T) {
	p := rich()
	last := len(p.Code) - 1
	for place := range last {
		for to := -1; to <= last+1; to++ {
			on, back := to > place && to <= last, to >= 1 && to <= place
			for _, i := range []api.Instr{ins(api.OJump, to), ins(api.OIf, to), ins(api.ODiffer, to, 0, 0, 1), ins(api.OFirst, 1, to), ins(api.OSeek, 2, to, 0, 1), ins(api.OPast, 2, to, 0, 1), ins(api.OFind, 1, to), ins(api.OSorted, 1, to)} {
				checks(t, fmt.Sprint(Show(i), " at ", place), at(p, place, i), on)
			}
			for _, i := range []api.Instr{ins(api.ONext, 2, to), ins(api.OAfter, 1, to)} {
				checks(t, fmt.Sprint(Show(i), " at ", place), at(p, place, i), back)
			}
		}
	}
}
