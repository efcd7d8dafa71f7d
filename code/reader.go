package code

import (
	"math"

	"cardindex/api"
	"cardindex/bytes"
	"cardindex/record"
)

// reader takes the parts of a program one behind the other; nothing, once one was wrong.
type reader struct {
	b     []byte
	at    int
	wrong bool
}

// prog takes a program: whether it may be is not asked. Fields are taken in the order in which they stand here.
func (r *reader) prog() api.Prog {
	return api.Prog{
		Version: r.number(),
		Regs:    r.number(),
		Binds:   r.number(),
		Names:   getList(r, maxNames, r.text),
		Consts:  getList(r, api.MaxConsts, r.value),
		Cursors: getList(r, api.MaxCursors, r.cursor),
		Sorters: getList(r, api.MaxSorters, r.sorter),
		Totals:  getList(r, api.MaxTotals, r.total),
		Code:    getList(r, api.MaxCode, r.instr),
	}
}

// getList takes how many there are, so many at most, and each.
func getList[T any](r *reader, most int, get func() T) []T {
	var list []T
	for range r.upTo(most) {
		x := get()
		if r.wrong {
			return nil
		}
		list = append(list, x)
	}
	return list
}

// upTo takes a number that is so great at most.
func (r *reader) upTo(most int) int {
	if r.wrong {
		return 0
	}
	n, next, err := bytes.GetUint(r.b, r.at)
	if err != api.OK || n > uint64(most) {
		r.wrong = true
		return 0
	}
	r.at = next
	return int(n)
}

func (r *reader) number() int {
	return r.upTo(math.MaxInt)
}

func (r *reader) flag() bool {
	return r.upTo(1) == 1
}

func (r *reader) blob() []byte {
	if r.wrong {
		return nil
	}
	b, next, err := bytes.GetBlob(r.b, r.at, maxBytes)
	if err != api.OK {
		r.wrong = true
		return nil
	}
	r.at = next
	return b
}

func (r *reader) text() string {
	return string(r.blob())
}

func (r *reader) value() api.Value {
	row, err := record.Get(r.blob())
	if err != api.OK || len(row) != 1 {
		r.wrong = true
		return api.Value{}
	}
	return row[0]
}

func (r *reader) cursor() api.Cur {
	return api.Cur{Name: r.text(), Index: r.flag(), Write: r.flag()}
}

func (r *reader) sorter() api.Sort {
	return api.Sort{Desc: getList(r, maxFlags, r.flag), Cols: r.number(), Distinct: r.flag()}
}

func (r *reader) total() api.Acc {
	return api.Acc{Func: r.text(), Distinct: r.flag()}
}

func (r *reader) instr() api.Instr {
	return api.Instr{Op: api.Op(r.upTo(math.MaxUint8)), A: r.number(), B: r.number(), C: r.number(), D: r.number()}
}
