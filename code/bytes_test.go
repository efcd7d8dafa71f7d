package code

import (
	"fmt"
	"slices"
	"strings"
	"testing"

	"cardindex/api"
)

// bytes_test.go: P15.2, the bytes of programs.

// wrote asks what the bytes of a program are, and whether they are read back.
func wrote(t *testing.T, what string, p api.Prog, want string) {
	t.Helper()
	b, err := Bytes(p)
	if string(b) != want || err != api.OK {
		t.Errorf("%s: error %d, %q, not %q", what, err, b, want)
	}
	if q, err := Read([]byte(want)); err != api.OK || !same(p, q) {
		t.Errorf("%s: error %d, %s is read", what, err, show(q))
	}
}

// P15.2: how each part of a program is written, part by part.
func TestPartsAreWritten(t *testing.T) {
	const end = "\x01\x23\x00\x00\x00\x00" // one instruction: halt
	base := least(1, halt)
	for _, c := range []struct {
		what   string
		change func(p *api.Prog)
		want   string
	}{
		{"least", func(*api.Prog) {}, "\x01\x01\x00" + "\x00\x00\x00\x00\x00" + end},
		{"numbers", func(p *api.Prog) { p.Version, p.Regs, p.Binds = 300, 250, 128 }, "\xac\x02\xfa\x01\x80\x01" + "\x00\x00\x00\x00\x00" + end},
		{"the greatest numbers", func(p *api.Prog) { p.Version, p.Regs, p.Binds = 1<<40, 250, 1000 }, "\x80\x80\x80\x80\x80\x20\xfa\x01\xe8\x07" + "\x00\x00\x00\x00\x00" + end},
		{"names", func(p *api.Prog) { p.Names = []string{"ab", "", "\x00\xff"} }, "\x01\x01\x00" + "\x03\x02ab\x00\x02\x00\xff" + "\x00\x00\x00\x00" + end},
		{"consts", func(p *api.Prog) { p.Consts = list(null, num(-129), text("hi"), blob("")) }, "\x01\x01\x00\x00" + "\x04\x02\x01\x00\x04\x01\x02\xff\x7f\x04\x01\x0fhi\x02\x01\x0a" + "\x00\x00\x00" + end},
		{"cursors", func(p *api.Prog) {
			p.Cursors = []api.Cur{{Name: "t"}, {Name: "uv", Write: true}, {Name: "i", Index: true}}
		}, "\x01\x01\x00\x00\x00" + "\x03\x01t\x00\x00\x02uv\x00\x01\x01i\x01\x00" + "\x00\x00" + end},
		{"sorters", func(p *api.Prog) {
			p.Sorters = []api.Sort{{Cols: 60}, {Desc: []bool{true, false}, Cols: 1, Distinct: true}}
		}, "\x01\x01\x00\x00\x00\x00" + "\x02\x00\x3c\x00\x02\x01\x00\x01\x01" + "\x00" + end},
		{"totals", func(p *api.Prog) { p.Totals = []api.Acc{{Func: "count*"}, {Func: "sum", Distinct: true}} }, "\x01\x01\x00\x00\x00\x00\x00" + "\x02\x06count*\x00\x03sum\x01" + end},
		{"code", func(p *api.Prog) {
			p.Regs = 250
			p.Code = []api.Instr{ins(api.OTwo, 200, 3, 4, 14), ins(api.OJump, 2), halt}
		}, "\x01\xfa\x01\x00\x00\x00\x00\x00\x00" + "\x03\x04\xc8\x01\x03\x04\x0e\x0a\x02\x00\x00\x00\x23\x00\x00\x00\x00"},
	} {
		wrote(t, c.what, with(base, c.change), c.want)
	}
}

// P15.2: a program that has something of all there is, whole.
func TestAllIsWritten(t *testing.T) {
	p := at(rich(), 2, ins(api.OCall, 1, 2, 3, 8))
	wrote(t, "rich", p, "\xac\x02\x05\x03"+"\x02\x01a\x00"+"\x05\x03\x01\x0dx\x02\x01\x00\x03\x01\x01\xf9\x02\x01\x0b\x03\x01\x0cx"+
		"\x04\x01t\x00\x01\x01t\x00\x00\x01i\x01\x00\x01u\x00\x01"+"\x03\x03\x01\x00\x00\x04\x01\x00\x01\x00\x01\x01\x02\x00"+"\x02\x03sum\x01\x06count*\x00"+
		"\x07\x23\x00\x00\x00\x00\x23\x00\x00\x00\x00\x08\x01\x02\x03\x08"+strings.Repeat("\x23\x00\x00\x00\x00", 4))
}

// asLongAs is a program of so many bytes.
func asLongAs(size int) api.Prog {
	p := rich()
	for range 15 {
		p.Consts = append(p.Consts, text(xs(api.MaxValue)))
	}
	p.Consts = append(p.Consts, blob(xs(20000)))
	last := len(p.Consts) - 1
	p.Consts[last].S = xs(20000 + size - len(bytesOf(p)))
	return p
}

// P15.2: as many bytes as may be, and one more; a program that may not be is refused ahead of that.
func TestBytesHaveALimit(t *testing.T) {
	p := asLongAs(1 << 20)
	b, err := Bytes(p)
	if len(b) != 1<<20 || err != api.OK {
		t.Fatalf("%d bytes, error %d", len(b), err)
	}
	if q, err := Read(b); err != api.OK || !same(p, q) {
		t.Errorf("error %d of what is read", err)
	}
	p = asLongAs(1<<20 + 1)
	if b, err := Bytes(p); len(b) != 0 || err != api.ErrLong {
		t.Errorf("%d bytes, error %d", len(b), err)
	}
	if err := Check(p); err != api.OK {
		t.Errorf("error %d: how many bytes it has is no part of what may be", err)
	}
	if q, err := Read(bytesOf(p)); err != api.ErrCode || !isNone(q) {
		t.Errorf("error %d of what is read of too much", err)
	}
	p.Code[0] = ins(api.OJump)
	if b, err := Bytes(p); len(b) != 0 || err != api.ErrCode {
		t.Errorf("%d bytes, error %d", len(b), err)
	}
	p = rich()
	p.Consts = slices.Repeat(list(text(xs(api.MaxValue))), api.MaxConsts)
	if b, err := Bytes(p); len(b) != 0 || err != api.ErrLong {
		t.Errorf("%d bytes, error %d", len(b), err)
	}
	p.Consts = nil
	p.Names = slices.Repeat([]string{xs(200)}, 200)
	p.Code = slices.Repeat([]api.Instr{halt}, api.MaxCode)
	if b, err := Bytes(p); string(b) != string(bytesOf(p)) || err != api.OK {
		t.Errorf("%d bytes, error %d", len(b), err)
	}
}

// P15.2: what is wrong with bytes, part by part.
func TestWrongBytes(t *testing.T) {
	const end = "\x01\x23\x00\x00\x00\x00"
	for _, c := range []struct{ what, b string }{
		{"nothing", ""},
		{"a byte more", "\x01\x01\x00\x00\x00\x00\x00\x00" + end + "\x00"},
		{"a byte less", "\x01\x01\x00\x00\x00\x00\x00\x00" + end[:5]},
		{"a Version of two digits where one does", "\x81\x00\x01\x00\x00\x00\x00\x00\x00" + end},
		{"a Version of no last digit", "\x81"},
		{"a Version of 0", "\x00\x01\x00\x00\x00\x00\x00\x00" + end},
		{"a Version beyond 63 bits", "\x81\x80\x80\x80\x80\x80\x80\x80\x80\x01\x01\x00\x00\x00\x00\x00\x00" + end},
		{"a Version beyond 64 bits", "\x81\x80\x80\x80\x80\x80\x80\x80\x80\x02\x01\x00\x00\x00\x00\x00\x00" + end},
		{"Regs of 0", "\x01\x00\x00\x00\x00\x00\x00\x00" + end},
		{"Regs of 256 and 1", "\x01\x81\x02\x00\x00\x00\x00\x00\x00" + end},
		{"Binds beyond 63 bits", "\x01\x01\x80\x80\x80\x80\x80\x80\x80\x80\x80\x01\x00\x00\x00\x00\x00" + end},
		{"201 names", "\x01\x01\x00\xc9\x01" + strings.Repeat("\x00", 201) + "\x00\x00\x00\x00" + end},
		{"a name of 201 bytes", "\x01\x01\x00\x01\xc9\x01" + xs(201) + "\x00\x00\x00\x00" + end},
		{"more names than there are", "\x01\x01\x00\x7f\x01a"},
		{"as many names as a number can tell", "\x01\x01\x00\xff\xff\xff\xff\xff\xff\xff\xff\xff\x01" + end},
		{"2^63 names", "\x01\x01\x00\x80\x80\x80\x80\x80\x80\x80\x80\x80\x01\x00\x00\x00\x00" + end},
		{"a name that goes on past the end", "\x01\x01\x00\x01\x7fa\x00\x00\x00\x00" + end},
		{"a name as long as a number can tell", "\x01\x01\x00\x01\xff\xff\xff\xff\xff\xff\xff\xff\xff\x01a\x00\x00\x00\x00" + end},
		{"a const of no bytes", "\x01\x01\x00\x00\x01\x00\x00\x00\x00" + end},
		{"a const of a row of none", "\x01\x01\x00\x00\x01\x01\x00\x00\x00\x00" + end},
		{"a const of a row of two", "\x01\x01\x00\x00\x01\x03\x02\x00\x00\x00\x00\x00" + end},
		{"a const of no row", "\x01\x01\x00\x00\x01\x02\x01\x09\x00\x00\x00" + end},
		{"a const of more bytes than it has", "\x01\x01\x00\x00\x01\x03\x01\x00\x00\x00\x00\x00" + end},
		{"a cursor without a name", "\x01\x01\x00\x00\x00\x01\x00\x00\x00\x00\x00" + end},
		{"a cursor whose Index is 2", "\x01\x01\x00\x00\x00\x01\x01t\x02\x00\x00\x00" + end},
		{"a cursor whose Write is 2", "\x01\x01\x00\x00\x00\x01\x01t\x00\x02\x00\x00" + end},
		{"a cursor whose Write is 129", "\x01\x01\x00\x00\x00\x01\x01t\x00\x81\x01\x00\x00" + end},
		{"a cursor of an index that is written", "\x01\x01\x00\x00\x00\x01\x01t\x01\x01\x00\x00" + end},
		{"a flag of 2", "\x01\x01\x00\x00\x00\x00\x01\x01\x02\x01\x00\x00" + end},
		{"31 flags", "\x01\x01\x00\x00\x00\x00\x01\x1f" + strings.Repeat("\x00", 31) + "\x01\x00\x00" + end},
		{"a sorter without Cols", "\x01\x01\x00\x00\x00\x00\x01\x00\x00\x00\x00" + end},
		{"a sorter whose Distinct is 3", "\x01\x01\x00\x00\x00\x00\x01\x00\x01\x03\x00" + end},
		{"a total that there is not", "\x01\x01\x00\x00\x00\x00\x00\x01\x03avg\x00" + end},
		{"a total whose Distinct is 2", "\x01\x01\x00\x00\x00\x00\x00\x01\x03sum\x02" + end},
		{"a distinct count*", "\x01\x01\x00\x00\x00\x00\x00\x01\x06count*\x01" + end},
		{"no instruction", "\x01\x01\x00\x00\x00\x00\x00\x00\x00"},
		{"no end", "\x01\x01\x00\x00\x00\x00\x00\x00\x01\x03\x00\x00\x00\x00"},
		{"an Op of 0", "\x01\x01\x00\x00\x00\x00\x00\x00\x02\x00\x00\x00\x00\x00\x23\x00\x00\x00\x00"},
		{"an Op of 36", "\x01\x01\x00\x00\x00\x00\x00\x00\x02\x24\x00\x00\x00\x00\x23\x00\x00\x00\x00"},
		{"an Op of 256 and 35", "\x01\x01\x00\x00\x00\x00\x00\x00\x01\xa3\x02\x00\x00\x00\x00"},
		{"a field that may not be", "\x01\x01\x00\x00\x00\x00\x00\x00\x01\x23\x00\x00\x00\x01"},
		{"a field of 2^64 - 1", "\x01\x01\x00\x00\x00\x00\x00\x00\x02\x03\x00\xff\xff\xff\xff\xff\xff\xff\xff\xff\x01\x00\x00\x23\x00\x00\x00\x00"},
		{"a field of 2^32", "\x01\x01\x00\x00\x00\x00\x00\x00\x02\x03\x00\x80\x80\x80\x80\x10\x00\x00\x23\x00\x00\x00\x00"},
		{"4001 instructions", "\x01\x01\x00\x00\x00\x00\x00\x00\xa1\x1f" + strings.Repeat("\x23\x00\x00\x00\x00", 4001)},
	} {
		if p, err := Read([]byte(c.b)); err != api.ErrCode || !isNone(p) {
			t.Errorf("%s: error %d, %s", c.what, err, show(p))
		}
	}
	if _, err := Read(nil); err != api.ErrCode {
		t.Errorf("error %d of no bytes", err)
	}
}

// P15.2: each beginning of a program's bytes is none; nor are they with one behind.
func TestBeginsAreNone(t *testing.T) {
	b, _ := Bytes(rich())
	for n := range b {
		if p, err := Read(b[:n]); err != api.ErrCode || !isNone(p) {
			t.Errorf("%d bytes: error %d, %s", n, err, show(p))
		}
	}
	for c := range 256 {
		if p, err := Read(append(slices.Clip(b), byte(c))); err != api.ErrCode || !isNone(p) {
			t.Errorf("%d behind: error %d, %s", c, err, show(p))
		}
	}
}

// P15.2: each byte of a program is changed to each other one: what is read then is what the twin says.
func TestEachByteCounts(t *testing.T) {
	p := with(rich(), func(p *api.Prog) {
		p.Code = []api.Instr{ins(api.OConst, 1, 2), ins(api.OFirst, 1, 6), ins(api.OCol, 1, 2, 7), ins(api.OCall, 1, 2, 3, 8), ins(api.OAdd, 0, 1, 1), ins(api.ONext, 1, 2), halt}
	})
	b, err := Bytes(p)
	if err != api.OK {
		t.Fatal(err)
	}
	took := 0
	for place := range b {
		for c := range 256 {
			other := slices.Clone(b)
			other[place] = byte(c)
			if readsAs(t, fmt.Sprint(c, " at ", place), other) {
				took++
			}
		}
	}
	if took < 2000 || took > len(b)*128 {
		t.Errorf("%d are programs", took)
	}
}

// readsAs asks whether bytes are read as the twin says; is it a program?
func readsAs(t *testing.T, what string, b []byte) bool {
	t.Helper()
	want, is := progOf(b)
	p, err := Read(b)
	if is && err != api.OK || !is && err != api.ErrCode || !same(p, want) {
		t.Fatalf("%s: error %d, %s, not %s", what, err, show(p), show(want))
	}
	return is
}
