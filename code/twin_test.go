package code

import (
	"encoding/binary"
	"math"
	"slices"
	"strings"

	"cardindex/api"
	"cardindex/record"
	"cardindex/value"
)

// twin_test.go: the chapter's words, said in another way: its table is read as it stands there.

// chapter is the table of what an instruction has, in the order of the Ops.
const chapter = `
OConst | r | a place in Consts | |
OBind | r | from 0 and below Binds | |
OMove | r | r | |
OTwo | r | r | r | from 0 to 14
OOne | r | r | | 0 or 1
OIs | r | r | | 0 or 1
OCast | r | r | | 0 or 1
OCall | r | r | from 1 to 100 | from 0 to 9
OMust | r | | | 0 or 1
OJump | j | | |
OIf | j | r | |
ODiffer | j | r | r | from 1 on
OFirst | c | j | |
OSeek | an index's c | j | r | from 1 on
ONext | c | n | |
OPast | an index's c | j | r | from 1 on
OFind | a table's c | j | r |
OCol | r | c | from 0 to 29 |
ORowid | r | c | |
OAdd | s | r | r |
OSorted | s | j | |
OAfter | s | n | |
OTake | r | s | below its Cols |
OClear | t | | |
OStep | t | r | |
OTotal | r | t | |
ORow | r | | |
ONewId | r | a table's c, written | |
OInsert | a table's c, written | r | r |
ODelete | a table's c, written | r | |
ODefine | a place in Consts, a VText | | |
OBegin | | | |
OCommit | | | |
OBack | | | |
OHalt | | | |`

// cells is the table's cells: of each row five; the first row is none, as no Op has the number 0.
var cells = func() [][]string {
	var told [][]string
	for row := range strings.SplitSeq(chapter, "\n") {
		var cells []string
		for cell := range strings.SplitSeq(row, "|") {
			cells = append(cells, strings.TrimSpace(cell))
		}
		told = append(told, cells)
	}
	return told
}()

// taken is all that a cell lets a field be, where what stands behind it lets it, too.
func taken(cell string, p api.Prog, place int, i api.Instr) []int {
	places := func(from, to int) []int { // to is not among them
		var told []int
		for n := from; n < to; n++ {
			told = append(told, n)
		}
		return told
	}
	cursors := func(is func(c api.Cur) bool) []int {
		return slices.DeleteFunc(places(0, len(p.Cursors)), func(n int) bool { return !is(p.Cursors[n]) })
	}
	switch cell {
	case "":
		return []int{0}
	case "r":
		return places(0, p.Regs)
	case "s":
		return places(0, len(p.Sorters))
	case "t":
		return places(0, len(p.Totals))
	case "c":
		return places(0, len(p.Cursors))
	case "an index's c":
		return cursors(func(c api.Cur) bool { return c.Index })
	case "a table's c":
		return cursors(func(c api.Cur) bool { return !c.Index })
	case "a table's c, written":
		return cursors(func(c api.Cur) bool { return !c.Index && c.Write })
	case "a place in Consts":
		return places(0, len(p.Consts))
	case "a place in Consts, a VText":
		return slices.DeleteFunc(places(0, len(p.Consts)), func(n int) bool { return p.Consts[n].Kind != api.VText })
	case "from 0 and below Binds":
		return places(0, p.Binds)
	case "j":
		return places(place+1, len(p.Code))
	case "n":
		return places(1, place+1)
	case "below its Cols":
		if i.B < 0 || i.B >= len(p.Sorters) {
			return nil
		}
		return places(0, p.Sorters[i.B].Cols)
	case "0 or 1":
		return []int{0, 1}
	case "from 0 to 9":
		return places(0, 10)
	case "from 0 to 14":
		return places(0, 15)
	case "from 0 to 29":
		return places(0, 30)
	case "from 1 to 100":
		return places(1, 101)
	case "from 1 on":
		return places(1, 300) // more than there are registers
	}
	panic(cell)
}

// arities is how many arguments each function may have, from and to, in their order.
var arities = [][2]int{{1, 1}, {1, 1}, {1, 1}, {1, 1}, {1, 1}, {1, 1}, {2, 2}, {2, 2}, {2, 3}, {2, 100}}

// runs is all registers that are told "from .. on", of an instruction whose fields its cells take.
func runs(p api.Prog, i api.Instr) []int {
	var told []int
	on := func(from, many int) {
		for n := range many {
			told = append(told, from+n)
		}
	}
	switch i.Op {
	case api.OCall:
		on(i.B, i.C)
	case api.ODiffer:
		on(i.B, i.D)
		on(i.C, i.D)
	case api.OSeek, api.OPast:
		on(i.C, i.D)
	case api.OAdd:
		on(i.B, len(p.Sorters[i.A].Desc))
		on(i.C, p.Sorters[i.A].Cols)
	case api.ORow:
		on(i.A, len(p.Names))
	}
	return told
}

// hasWhatItHas: has the instruction at a place what its row of the table says?
func hasWhatItHas(p api.Prog, place int, i api.Instr) bool {
	if i.Op == 0 || int(i.Op) >= len(cells) {
		return false
	}
	for k, field := range []int{i.A, i.B, i.C, i.D} {
		if !slices.Contains(taken(cells[i.Op][k+1], p, place, i), field) {
			return false
		}
	}
	if i.Op == api.OCall && (i.C < arities[i.D][0] || i.C > arities[i.D][1]) {
		return false
	}
	return !slices.ContainsFunc(runs(p, i), func(r int) bool { return r >= p.Regs })
}

// alone is the Ops whose instruction is the first one of two.
var alone = []api.Op{api.ODefine, api.OBegin, api.OCommit, api.OBack}

// totals is what totals are called.
var totals = []string{"count", "count*", "sum", "total", "min", "max", "group_concat"}

// mayBeOne: may p be a program?
func mayBeOne(p api.Prog) bool {
	right := p.Version >= 1 && p.Version <= 1<<40 && p.Regs >= 1 && p.Regs <= 250 && p.Binds >= 0 && p.Binds <= 1000 &&
		len(p.Names) <= 200 && len(p.Consts) <= 1000 && len(p.Cursors) <= 12 && len(p.Sorters) <= 6 && len(p.Totals) <= 60 &&
		len(p.Code) >= 1 && len(p.Code) <= 4000 && p.Code[len(p.Code)-1].Op == api.OHalt
	if !right {
		return false
	}
	for _, s := range p.Names {
		right = right && len(s) <= 200
	}
	for _, v := range p.Consts {
		right = right && value.Right(v)
	}
	for _, c := range p.Cursors {
		right = right && len(c.Name) >= 1 && len(c.Name) <= 200 && !(c.Index && c.Write)
	}
	for _, s := range p.Sorters {
		right = right && len(s.Desc) <= 30 && s.Cols >= 1 && s.Cols <= 60
	}
	for _, a := range p.Totals {
		right = right && slices.Contains(totals, a.Func) && !(a.Distinct && a.Func == "count*")
	}
	for place, i := range p.Code {
		right = right && hasWhatItHas(p, place, i) && (!slices.Contains(alone, i.Op) || place == 0 && len(p.Code) == 2)
	}
	return right
}

// bytesOf is the bytes of p, whatever they are; what is below 0 is as great as 64 bits let it be.
func bytesOf(p api.Prog) []byte {
	var b []byte
	number := func(n int) { b = binary.AppendUvarint(b, uint64(n)) }
	flag := func(yes bool) {
		if yes {
			b = append(b, 1)
		} else {
			b = append(b, 0)
		}
	}
	text := func(s string) {
		number(len(s))
		b = append(b, s...)
	}
	number(p.Version)
	number(p.Regs)
	number(p.Binds)
	number(len(p.Names))
	for _, s := range p.Names {
		text(s)
	}
	number(len(p.Consts))
	for _, v := range p.Consts {
		row, _ := record.Put(list(v))
		text(string(row))
	}
	number(len(p.Cursors))
	for _, c := range p.Cursors {
		text(c.Name)
		flag(c.Index)
		flag(c.Write)
	}
	number(len(p.Sorters))
	for _, s := range p.Sorters {
		number(len(s.Desc))
		for _, desc := range s.Desc {
			flag(desc)
		}
		number(s.Cols)
		flag(s.Distinct)
	}
	number(len(p.Totals))
	for _, a := range p.Totals {
		text(a.Func)
		flag(a.Distinct)
	}
	number(len(p.Code))
	for _, i := range p.Code {
		for _, n := range []int{int(i.Op), i.A, i.B, i.C, i.D} {
			number(n)
		}
	}
	return b
}

// progOf is the program whose bytes b are: they are read as generously as may be, and then written again.
func progOf(b []byte) (api.Prog, bool) {
	rest := b
	number := func() int {
		n, size := binary.Uvarint(rest)
		if size <= 0 {
			rest = nil
			return 0
		}
		rest = rest[size:]
		return int(n)
	}
	many := func() int { return max(0, min(number(), len(rest))) }
	flag := func() bool { return number()%2 == 1 }
	text := func() string {
		n := many()
		s := string(rest[:n])
		rest = rest[n:]
		return s
	}
	var p api.Prog
	p.Version, p.Regs, p.Binds = number(), number(), number()
	for range many() {
		p.Names = append(p.Names, text())
	}
	for range many() {
		row, _ := record.Get([]byte(text()))
		p.Consts = append(p.Consts, append(row, null)[0])
	}
	for range many() {
		p.Cursors = append(p.Cursors, api.Cur{Name: text(), Index: flag(), Write: flag()})
	}
	for range many() {
		var s api.Sort
		for range many() {
			s.Desc = append(s.Desc, flag())
		}
		s.Cols, s.Distinct = number(), flag()
		p.Sorters = append(p.Sorters, s)
	}
	for range many() {
		p.Totals = append(p.Totals, api.Acc{Func: text(), Distinct: flag()})
	}
	for range many() {
		p.Code = append(p.Code, api.Instr{Op: api.Op(number() & math.MaxUint8), A: number(), B: number(), C: number(), D: number()})
	}
	if len(b) > 1<<20 || !mayBeOne(p) || !slices.Equal(bytesOf(p), b) {
		return api.Prog{}, false
	}
	return p, true
}
