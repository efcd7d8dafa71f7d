package record

import (
	"slices"
	"testing"

	"cardindex/api"
)

// memory_test.go: R3, what is handed in is neither changed nor kept; what is handed out is new.

// roomy is s with spare room behind it, and all of that memory.
func roomy(s string) ([]byte, []byte) {
	whole := []byte(s + "spare")
	return whole[:len(s)], whole
}

// spoil changes all of b, its spare room too.
func spoil(b []byte) {
	b = b[:cap(b)]
	for i := range b {
		b[i] ^= 0x5a
	}
}

// R3: Put and Key leave a row, its flags and their spare room as they are; what they tell is new each time.
func TestWritersGiveNewMemory(t *testing.T) {
	whole := list(null, num(-300), text("a\x00"), blob("\xff"), num(7))
	flags := []bool{true, false, true, false, true}
	row, desc := whole[:4], flags[:4]
	wholeWas, flagsWas := slices.Clone(whole), slices.Clone(flags)
	writers := map[string]func() []byte{
		"Put":            func() []byte { return put(t, row) },
		"Put of nothing": func() []byte { return put(t, row[:0]) },
		"Key":            func() []byte { return key(t, row, desc) },
		"Key of nothing": func() []byte { return key(t, row[:0], desc[:0]) },
	}
	for name, write := range writers {
		first := write()
		told := string(first)
		second := write()
		spoil(first)
		if string(second) != told || string(write()) != told {
			t.Errorf("%s: two answers share memory", name)
		}
		if !slices.Equal(whole, wholeWas) || !slices.Equal(flags, flagsWas) {
			t.Errorf("%s: what was handed in is changed", name)
		}
	}
}

// R3: Get and Unkey leave bytes, flags and their spare room as they are; what they tell is new each time.
func TestReadersGiveNewMemory(t *testing.T) {
	row := list(null, num(-300), text("a\x00"), blob("\xff"))
	flags := []bool{true, false, true, false, true}
	desc := flags[:4]
	readers := map[string]struct {
		b    []byte
		read func([]byte) ([]api.Value, api.Errno)
	}{
		"Get":   {put(t, row), Get},
		"Unkey": {key(t, row, desc), func(b []byte) ([]api.Value, api.Errno) { return Unkey(b, desc) }},
	}
	for name, c := range readers {
		b, whole := roomy(string(c.b))
		was := string(whole)
		first, err := c.read(b)
		second, _ := c.read(b)
		if err != api.OK || string(whole) != was || !slices.Equal(flags, []bool{true, false, true, false, true}) {
			t.Errorf("%s: error %d, or what was handed in is changed", name, err)
		}
		clear(first[:cap(first)])
		if !slices.Equal(second, row) {
			t.Errorf("%s: two answers share memory", name)
		}
		spoil(whole)
		if !slices.Equal(second, row) {
			t.Errorf("%s: what was handed in is kept", name)
		}
	}
}

// R3: what is refused stays as it is, too.
func TestRefusedStaysAsItIs(t *testing.T) {
	b, whole := roomy("\x02\x01\x0f\x05h")
	was := string(whole)
	desc := []bool{true, false}
	if _, err := Get(b); err != api.ErrBytes {
		t.Error(err)
	}
	if _, err := Unkey(b, desc); err != api.ErrBytes {
		t.Error(err)
	}
	row := list(text("a"), api.Value{Kind: 9})
	if _, err := Put(row); err != api.ErrArg {
		t.Error(err)
	}
	if _, err := Key(row, desc); err != api.ErrArg {
		t.Error(err)
	}
	if string(whole) != was || !slices.Equal(desc, []bool{true, false}) || !slices.Equal(row, list(text("a"), api.Value{Kind: 9})) {
		t.Error("what was handed in is changed")
	}
}
