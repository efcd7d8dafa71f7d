package code

import (
	"cardindex/api"
	"cardindex/bytes"
	"cardindex/record"
)

// writer puts the parts of a program behind one another.
type writer struct {
	out []byte
}

func (w *writer) isTooLong() bool {
	return len(w.out) > maxBytes
}

// prog puts a program that may be.
func (w *writer) prog(p api.Prog) {
	w.numbers(p.Version, p.Regs, p.Binds)
	putList(w, p.Names, w.text)
	putList(w, p.Consts, w.value)
	putList(w, p.Cursors, w.cursor)
	putList(w, p.Sorters, w.sorter)
	putList(w, p.Totals, w.total)
	putList(w, p.Code, w.instr)
}

// putList puts how many there are, and each.
func putList[T any](w *writer, list []T, put func(T)) {
	w.numbers(len(list))
	for _, x := range list {
		if w.isTooLong() {
			return // it is not told: the values alone may be 64 times as much as is
		}
		put(x)
	}
}

func (w *writer) numbers(all ...int) {
	for _, n := range all {
		w.out = append(w.out, bytes.Uint(nil, uint64(n))...)
	}
}

func (w *writer) flag(yes bool) {
	if yes {
		w.numbers(1)
	} else {
		w.numbers(0)
	}
}

func (w *writer) blob(b []byte) {
	w.out = append(w.out, bytes.Blob(nil, b)...)
}

func (w *writer) text(s string) {
	w.blob([]byte(s))
}

func (w *writer) value(v api.Value) {
	row, _ := record.Put([]api.Value{v}) // it takes each right value alone
	w.blob(row)
}

func (w *writer) cursor(c api.Cur) {
	w.text(c.Name)
	w.flag(c.Index)
	w.flag(c.Write)
}

func (w *writer) sorter(s api.Sort) {
	putList(w, s.Desc, w.flag)
	w.numbers(s.Cols)
	w.flag(s.Distinct)
}

func (w *writer) total(a api.Acc) {
	w.text(a.Func)
	w.flag(a.Distinct)
}

func (w *writer) instr(i api.Instr) {
	w.numbers(int(i.Op))
	fields := fieldsOf(i)
	w.numbers(fields[:]...)
}
