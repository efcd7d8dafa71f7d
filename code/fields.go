package code

import (
	"math"

	"cardindex/api"
	"cardindex/value"
)

// field tells whether f may stand in a field of the instruction i at a place.
type field func(f int, i api.Instr, at int) bool

// letters tell what a field of p's instructions may be, each by its letter (see ops).
// The fields of an instruction are asked in order, up to the first one that may not be: so a letter may count on those ahead of it.
func letters(p api.Prog) map[byte]field {
	return map[byte]field{
		'-': between(0, 0),
		'1': between(0, 1),
		'r': placeOf(p.Regs),
		'b': placeOf(p.Binds),
		'k': placeOf(len(p.Consts)),
		'c': placeOf(len(p.Cursors)),
		's': placeOf(len(p.Sorters)),
		't': placeOf(len(p.Totals)),
		'o': placeOf(len(signs)),
		'l': placeOf(api.MaxColumns),
		'm': between(1, api.MaxArgs),
		'd': between(1, math.MaxInt),
		'x': such(p.Consts, func(v api.Value) bool { return v.Kind == api.VText }),
		'y': such(p.Cursors, func(c api.Cur) bool { return !c.Index }),
		'i': such(p.Cursors, func(c api.Cur) bool { return c.Index }),
		'w': such(p.Cursors, func(c api.Cur) bool { return !c.Index && c.Write }),
		'j': func(f int, _ api.Instr, at int) bool { return within(at+1, len(p.Code)-1, f) },
		'n': func(f int, _ api.Instr, at int) bool { return within(1, at, f) },
		'f': func(f int, i api.Instr, _ int) bool { return isCall(f, i.C) },
		'u': func(f int, i api.Instr, _ int) bool { return within(0, p.Sorters[i.B].Cols-1, f) },
		'C': from(p.Regs, func(i api.Instr) int { return i.C }),
		'D': from(p.Regs, func(i api.Instr) int { return i.D }),
		'K': from(p.Regs, func(i api.Instr) int { return len(p.Sorters[i.A].Desc) }),
		'V': from(p.Regs, func(i api.Instr) int { return p.Sorters[i.A].Cols }),
		'N': from(p.Regs, func(api.Instr) int { return len(p.Names) }),
	}
}

// within: is n from least up to most?
func within(least, most, n int) bool {
	return least <= n && n <= most
}

// between takes what is from least up to most.
func between(least, most int) field {
	return func(f int, _ api.Instr, _ int) bool { return within(least, most, f) }
}

// placeOf takes the places of so many.
func placeOf(many int) field {
	return between(0, many-1)
}

// such takes the places of a list where something of a kind stands.
func such[T any](list []T, is func(T) bool) field {
	return func(f int, _ api.Instr, _ int) bool { return within(0, len(list)-1, f) && is(list[f]) }
}

// from takes registers from which on there are as many more as an instruction has: it is one itself, also of none.
func from(regs int, many func(i api.Instr) int) field {
	return func(f int, i api.Instr, _ int) bool { return within(0, regs-1, f) && many(i) <= regs-f }
}

// isCall: is there a function d of so many arguments?
func isCall(d, args int) bool {
	name, known := Func(d)
	return known && value.Known(name, args)
}
