package code

import (
	"fmt"
	"slices"
	"testing"

	"cardindex/api"
)

// follows_test.go: P15.3, what follows; all calls held against the twin, for programs by chance.

// maker makes programs.
type maker struct {
	*chance
}

// some is a list of that length at most.
func some[T any](m maker, most int, one func() T) []T {
	var told []T
	for range m.below(most + 1) {
		told = append(told, one())
	}
	return told
}

func (m maker) flag() bool { return m.one(2) }

func (m maker) value() api.Value {
	return oneOf(m.chance, null, num(0), num(-1), num(int64(m.below(1<<31))<<32), text(""), text("create table t (a)"), blob("\x00\x01"), text(xs(m.below(300))), blob(xs(200)))
}

func (m maker) cursor() api.Cur {
	c := api.Cur{Name: xs(1 + m.below(150)), Index: m.flag()}
	c.Write = !c.Index && m.flag()
	return c
}

// prog is a program that may be.
func (m maker) prog() api.Prog {
	p := api.Prog{
		Version: 1 + m.below(1<<31)<<m.below(10), Regs: 1 + m.below(oneOf(m.chance, 5, 250)), Binds: m.below(oneOf(m.chance, 1, 1001)),
		Names:   some(m, oneOf(m.chance, 2, 10, 200), func() string { return xs(m.below(10) * m.below(23)) }),
		Consts:  some(m, oneOf(m.chance, 3, 200), m.value),
		Cursors: some(m, api.MaxCursors, m.cursor),
		Sorters: some(m, api.MaxSorters, func() api.Sort { return api.Sort{Desc: some(m, 30, m.flag), Cols: 1 + m.below(60), Distinct: m.flag()} }),
		Totals: some(m, oneOf(m.chance, 3, 60), func() api.Acc {
			a := api.Acc{Func: oneOf(m.chance, totals...)}
			a.Distinct = a.Func != "count*" && m.flag()
			return a
		}),
		Code: slices.Repeat([]api.Instr{halt}, 1+m.below(oneOf(m.chance, 2, 30, 200))),
	}
	for place := range len(p.Code) - 1 {
		p.Code[place] = m.instr(p, place)
	}
	if m.one(10) {
		p.Consts = append(p.Consts, text("drop table t"))
		p.Code = []api.Instr{ins(oneOf(m.chance, alone...)), halt}
		if p.Code[0].Op == api.ODefine {
			p.Code[0].A = len(p.Consts) - 1
		}
	}
	return p
}

// instr is an instruction that has what its Op has, at a place.
func (m maker) instr(p api.Prog, place int) api.Instr {
	for {
		var fields [4]int
		o := api.Op(1 + m.below(len(cells)-1))
		if slices.Contains(alone, o) {
			continue
		}
		for k := range fields {
			if all := taken(cells[o][k+1], p, place, ins(o, fields[:]...)); len(all) > 0 {
				fields[k] = all[m.below(oneOf(m.chance, len(all), min(len(all), 4)))]
			}
		}
		if i := ins(o, fields[:]...); hasWhatItHas(p, place, i) {
			return i
		}
	}
}

// spoil changes one thing of a program, so that it may be none.
func (m maker) spoil(p *api.Prog) {
	number := func(n *int) { *n = oneOf(m.chance, append(edges, *n-1, *n+1, -*n, *n+256)...) }
	field := func(i *api.Instr) { number(oneOf(m.chance, &i.A, &i.B, &i.C, &i.D)) }
	switch m.below(16) {
	case 0:
		number(oneOf(m.chance, &p.Version, &p.Regs, &p.Binds))
	case 1:
		p.Names = append(p.Names, xs(199+m.below(3)))
	case 2:
		p.Consts = append(p.Consts, oneOf(m.chance, wrongValues()...))
	case 3:
		p.Cursors = append(p.Cursors, api.Cur{Name: xs(m.below(2) * (199 + m.below(3))), Index: m.flag(), Write: m.flag()})
	case 4:
		p.Sorters = append(p.Sorters, api.Sort{Desc: make([]bool, 29+m.below(3)), Cols: oneOf(m.chance, -1, 0, 1, 60, 61), Distinct: m.flag()})
	case 5:
		p.Totals = append(p.Totals, api.Acc{Func: oneOf(m.chance, "count*", "sum", "", "avg"), Distinct: m.flag()})
	case 6:
		p.Code = p.Code[:len(p.Code)-1]
	case 7:
		p.Code = append(p.Code, halt)
	case 8:
		p.Code[m.below(len(p.Code))].Op = api.Op(m.below(oneOf(m.chance, 40, 256)))
	case 9:
		if len(p.Consts) > 0 {
			p.Consts[m.below(len(p.Consts))] = m.value()
		}
	case 10:
		p.Cursors = p.Cursors[:len(p.Cursors)/2]
	case 11:
		p.Totals, p.Sorters = p.Totals[:len(p.Totals)/2], p.Sorters[:len(p.Sorters)/2]
	default:
		field(&p.Code[m.below(len(p.Code))])
	}
}

// P15.3: what is written is read back; Check, Bytes and Read are as the twin says, also of what was spoilt.
func TestWhatIsWrittenIsReadBack(t *testing.T) {
	right, wrong, seen := 0, 0, map[api.Op]int{}
	for seed := range 800 {
		m := maker{newChance(uint64(seed))}
		p := m.prog()
		if !heldTo(t, fmt.Sprint(seed), p) {
			t.Fatalf("%d: none: %s", seed, show(p))
		}
		readBack(t, p)
		for _, i := range p.Code {
			seen[i.Op]++
		}
		for range 10 {
			q := copyOf(p)
			m.spoil(&q)
			if heldTo(t, fmt.Sprint(seed), q) {
				right++
				readBack(t, q)
			} else {
				wrong++
				if b, err := Bytes(q); err != api.ErrCode || len(b) > 0 {
					t.Fatalf("%d: %d bytes, error %d of none", seed, len(b), err)
				}
				readsAs(t, fmt.Sprint(seed), bytesOf(q))
			}
		}
	}
	if right < 800 || wrong < 3000 || len(seen) != 35 {
		t.Errorf("%d spoilt ones may be, %d not; %d ops", right, wrong, len(seen))
	}
}

// readBack asks for the bytes of a program, and for the program of these.
func readBack(t *testing.T, p api.Prog) {
	t.Helper()
	b, err := Bytes(p)
	if err != api.OK || string(b) != string(bytesOf(p)) {
		t.Fatalf("error %d: %q, not %q", err, b, bytesOf(p))
	}
	if q, err := Read(b); err != api.OK || !same(p, q) {
		t.Fatalf("error %d: %s is read, not %s", err, show(q), show(p))
	}
}

// P15.2: bytes that were spoilt are read as the twin says.
func TestSpoiltBytes(t *testing.T) {
	took := 0
	for seed := range 700 {
		m := maker{newChance(uint64(seed))}
		b := bytesOf(m.prog())
		for range 10 {
			if readsAs(t, fmt.Sprint(seed), m.spoilt(b)) {
				took++
			}
		}
	}
	if took < 300 || took > 6500 {
		t.Errorf("%d are programs", took)
	}
}

// spoilt is bytes with one changed, one more, one less; or where digits are more than it takes.
func (m maker) spoilt(b []byte) []byte {
	place := m.below(min(len(b), oneOf(m.chance, 20, 200, len(b))))
	switch m.below(6) {
	case 0:
		return slices.Delete(slices.Clone(b), place, place+1)
	case 1:
		return slices.Insert(slices.Clone(b), place, byte(m.below(256)))
	case 2:
		return slices.Replace(slices.Clone(b), place, place+1, b[place]|128, 0)
	case 3:
		return b[:place]
	}
	told := slices.Clone(b)
	told[place] = byte(oneOf(m.chance, int(told[place])+1, int(told[place])-1, m.below(256), m.below(3)))
	return told
}

// P15.2, P15.3: whatever bytes there are: what is read is what the twin says.
func FuzzRead(f *testing.F) {
	for seed := range 40 {
		if b := bytesOf(maker{newChance(uint64(seed))}.prog()); len(b) < 2000 {
			f.Add(b)
		}
	}
	f.Add(bytesOf(least(1, halt)))
	f.Add(bytesOf(rich()))
	f.Fuzz(func(t *testing.T, b []byte) {
		if readsAs(t, "fuzz", b) {
			p, _ := Read(b)
			if heldTo(t, "fuzz", p); Check(p) != api.OK {
				t.Fatalf("what is read is none: %s", show(p))
			}
			readBack(t, p)
		}
	})
}
