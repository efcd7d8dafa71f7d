package code

import (
	"slices"

	"cardindex/agg"
	"cardindex/api"
	"cardindex/value"
)

// Limits of programs that are this layer's own.
const (
	maxVersion = 1 << 40
	maxBinds   = 1000
	maxNames   = 200
	maxName    = 200 // bytes of a name, of a cursor's too
	maxFlags   = 30
	maxCols    = 60 // of a sorter
	maxBytes   = 1 << 20
)

// mayBe: may p be a program?
func mayBe(p api.Prog) bool {
	return within(1, maxVersion, p.Version) &&
		within(1, api.MaxRegs, p.Regs) &&
		within(0, maxBinds, p.Binds) &&
		all(p.Names, maxNames, func(s string) bool { return len(s) <= maxName }) &&
		all(p.Consts, api.MaxConsts, value.Right) &&
		all(p.Cursors, api.MaxCursors, isCursor) &&
		all(p.Sorters, api.MaxSorters, isSorter) &&
		all(p.Totals, api.MaxTotals, isTotal) &&
		isCode(p)
}

// all: are there so many at most, each as it is asked?
func all[T any](list []T, most int, is func(T) bool) bool {
	return len(list) <= most && !slices.ContainsFunc(list, func(x T) bool { return !is(x) })
}

func isCursor(c api.Cur) bool {
	return within(1, maxName, len(c.Name)) && !(c.Index && c.Write)
}

func isSorter(s api.Sort) bool {
	return len(s.Desc) <= maxFlags && within(1, maxCols, s.Cols)
}

func isTotal(a api.Acc) bool {
	_, err := agg.New(a.Func, a.Distinct)
	return err == api.OK
}

// isCode: has p instructions that may be, where all else of it may?
func isCode(p api.Prog) bool {
	if !within(1, api.MaxCode, len(p.Code)) || p.Code[len(p.Code)-1].Op != api.OHalt {
		return false
	}
	may := letters(p)
	for at, i := range p.Code {
		if !hasItsFields(i, at, may) || isAlone(i.Op) && len(p.Code) != 2 {
			return false
		}
	}
	return true
}

// hasItsFields: has an instruction what its Op has?
func hasItsFields(i api.Instr, at int, may map[byte]field) bool {
	its := opOf(i.Op).fields
	if its == "" {
		return false
	}
	for place, f := range fieldsOf(i) {
		if !may[its[place]](f, i, at) {
			return false
		}
	}
	return true
}
