package code

import (
	"fmt"
	"reflect"
	"slices"
	"strings"
	"testing"
	"unsafe"

	"cardindex/api"
)

// memory_test.go: R2 to R4, R6: what stands beside an error; memory that is shared with nobody; answers that hang on nothing else.

// asked is what calls are asked of.
type asked struct {
	P api.Prog
	B []byte
}

// allAsked is programs that may be, each with its bytes, and such as may not, with bytes that are none.
func allAsked() []asked {
	told := []asked{{rich(), bytesOf(rich())}, {least(1, halt), bytesOf(least(1, halt))}}
	for seed := range 40 {
		m := maker{newChance(uint64(seed))}
		p := m.prog()
		told = append(told, asked{p, bytesOf(p)})
		p = copyOf(p)
		m.spoil(&p)
		told = append(told, asked{p, m.spoilt(bytesOf(p))})
	}
	long := asLongAs(1<<20 + 1)
	return append(told, asked{long, bytesOf(long)}, asked{})
}

// answer is what all calls answer.
type answer struct {
	Checked api.Errno
	Bytes   []byte
	Wrote   api.Errno
	Prog    api.Prog
	Read    api.Errno
	Shown   []string
}

func answerOf(x asked) answer {
	a := answer{Checked: Check(x.P)}
	a.Bytes, a.Wrote = Bytes(x.P)
	a.Prog, a.Read = Read(x.B)
	for _, i := range x.P.Code {
		a.Shown = append(a.Shown, Show(i), Word(i.Op))
	}
	for d := range 16 {
		sign, is := Sign(d)
		function, known := Func(d)
		a.Shown = append(a.Shown, sign, function, fmt.Sprint(is, known))
	}
	return a
}

// memory is what a call is handed: lists with spare room that has something in it, texts that can be written over.
type memory struct {
	rooms []reflect.Value
	spoil []func()
}

// put is a copy of anything in such memory.
func (m *memory) put(v reflect.Value) reflect.Value {
	told := reflect.New(v.Type()).Elem()
	switch v.Kind() {
	case reflect.Struct:
		for i := range v.NumField() {
			told.Field(i).Set(m.put(v.Field(i)))
		}
	case reflect.Slice:
		all := reflect.MakeSlice(v.Type(), v.Len()+3, v.Len()+3)
		for i := range all.Len() {
			if i < v.Len() {
				all.Index(i).Set(m.put(v.Index(i)))
			} else {
				mark(all.Index(i))
			}
		}
		m.rooms = append(m.rooms, all.Slice(v.Len(), all.Len()))
		m.spoil = append(m.spoil, func() {
			for i := range all.Len() {
				mark(all.Index(i))
			}
		})
		told.Set(all.Slice(0, v.Len()))
	case reflect.String:
		bytes := []byte(v.String())
		told.SetString(unsafe.String(unsafe.SliceData(bytes), len(bytes)))
		m.spoil = append(m.spoil, func() {
			for i := range bytes {
				bytes[i] = 'z'
			}
		})
	default:
		told.Set(v)
	}
	return told
}

// mark puts something into a place.
func mark(v reflect.Value) {
	switch v.Kind() {
	case reflect.String:
		v.SetString("spare")
	case reflect.Slice:
		v.Set(reflect.MakeSlice(v.Type(), 1, 1))
	case reflect.Struct:
		v.SetZero()
		mark(v.Field(0))
	case reflect.Int:
		v.SetInt(77)
	case reflect.Uint8:
		v.SetUint(77)
	case reflect.Bool:
		v.SetBool(true)
	}
}

// isUntouched: is the spare room what it was?
func (m *memory) isUntouched() bool {
	return !slices.ContainsFunc(m.rooms, func(room reflect.Value) bool {
		want := reflect.New(room.Type().Elem()).Elem()
		mark(want)
		for i := range room.Len() {
			if !reflect.DeepEqual(room.Index(i).Interface(), want.Interface()) {
				return true
			}
		}
		return false
	})
}

// handed is a copy of anything in such memory.
func handed[T any](m *memory, x T) T {
	return m.put(reflect.ValueOf(x)).Interface().(T)
}

// plain is anything with each empty list as none, in memory of its own.
func plain[T any](x T) T {
	var walk func(v reflect.Value) reflect.Value
	walk = func(v reflect.Value) reflect.Value {
		told := reflect.New(v.Type()).Elem()
		switch v.Kind() {
		case reflect.Struct:
			for i := range v.NumField() {
				told.Field(i).Set(walk(v.Field(i)))
			}
		case reflect.Slice:
			for i := range v.Len() {
				told.Set(reflect.Append(told, walk(v.Index(i))))
			}
		case reflect.String:
			told.SetString(strings.Clone(v.String()))
		default:
			told.Set(v)
		}
		return told
	}
	if b, is := any(x).([]byte); is {
		return any(append([]byte(nil), b...)).(T)
	}
	return walk(reflect.ValueOf(x)).Interface().(T)
}

// short is all that is asked but the longest one, which is too much to be looked at byte by byte.
func short() []asked {
	return slices.DeleteFunc(allAsked(), func(x asked) bool { return len(x.B) > 50000 })
}

// R3: what is handed in is not changed, its spare room neither; what is told stays what it is, whatever becomes of that memory.
func TestWhatIsToldSharesNothing(t *testing.T) {
	for i, x := range short() {
		want, ahead := plain(answerOf(x)), plain(x)
		m := &memory{}
		x = handed(m, x)
		got := answerOf(x)
		if !m.isUntouched() || !reflect.DeepEqual(plain(x), ahead) {
			t.Errorf("%d: what is handed in is changed", i)
		}
		for _, spoil := range m.spoil {
			spoil()
		}
		if !reflect.DeepEqual(plain(got), want) {
			t.Errorf("%d: another answer, once what was handed in is spoilt", i)
		}
	}
}

// room is a list's memory, spare room and all: from where to where, and which list it is.
type room struct {
	from, to uintptr
	where    string
}

// rooms is the memory of all lists that stand in anything.
func rooms(v reflect.Value, where string) []room {
	var all []room
	switch v.Kind() {
	case reflect.Struct:
		for i := range v.NumField() {
			all = append(all, rooms(v.Field(i), where+"."+v.Type().Field(i).Name)...)
		}
	case reflect.Slice:
		if v.Cap() > 0 {
			all = append(all, room{v.Pointer(), v.Pointer() + uintptr(v.Cap())*v.Type().Elem().Size(), where})
		}
		for i := range v.Len() {
			all = append(all, rooms(v.Index(i), where+"[]")...)
		}
	}
	return all
}

// R3: no two lists of answers share memory, their spare room neither; nor with what was handed in.
func TestListsShareNothing(t *testing.T) {
	var kept []any // as long as it is kept, no other list can stand where it stands
	var all []room
	for _, x := range short() {
		m := &memory{}
		x = handed(m, x)
		one, two := answerOf(x), answerOf(x)
		kept = append(kept, x, one, two)
		for _, v := range kept[len(kept)-3:] {
			all = append(all, rooms(reflect.ValueOf(v), reflect.TypeOf(v).Name())...)
		}
	}
	slices.SortFunc(all, func(a, b room) int { return int(int64(a.from) - int64(b.from)) })
	for i := range all[1:] {
		if all[i].to > all[i+1].from {
			t.Errorf("%s shares memory with %s", all[i].where, all[i+1].where)
		}
	}
	if len(all) < 1000 || len(kept) < 200 {
		t.Errorf("%d lists, %d answers alone", len(all), len(kept))
	}
}

// R2: nothing stands beside an error.
func TestNothingBesideErrors(t *testing.T) {
	var unchecked, unwritten, unread int
	for i, x := range allAsked() {
		a := answerOf(x)
		if a.Checked != api.OK {
			unchecked++
		}
		if a.Wrote != api.OK {
			unwritten++
			if len(a.Bytes) > 0 {
				t.Errorf("%d: %d bytes beside error %d", i, len(a.Bytes), a.Wrote)
			}
		}
		if a.Read != api.OK {
			unread++
			if !reflect.DeepEqual(a.Prog, api.Prog{}) {
				t.Errorf("%d: %s beside error %d", i, show(a.Prog), a.Read)
			}
		}
	}
	if unchecked < 20 || unwritten != unchecked+1 || unread < 30 {
		t.Errorf("%d, %d, %d errors", unchecked, unwritten, unread)
	}
}

// R4: a call's answer hangs on what it is given alone.
func TestAgain(t *testing.T) {
	var first []answer
	for _, x := range allAsked() {
		first = append(first, answerOf(x))
	}
	for i, x := range slices.Backward(allAsked()) {
		answerOf(asked{})
		if a := answerOf(x); !reflect.DeepEqual(a, first[i]) {
			t.Errorf("%d: another answer", i)
		}
	}
}

// R6: lists that are empty are as none.
func TestEmptyListsAreNone(t *testing.T) {
	p := least(1, halt)
	want := bytesOf(p)
	p.Names, p.Consts, p.Cursors = []string{}, []api.Value{}, []api.Cur{}
	p.Sorters, p.Totals = []api.Sort{}, []api.Acc{}
	wrote(t, "empty", p, string(want))
	p.Sorters = []api.Sort{{Desc: []bool{}, Cols: 1}}
	b, err := Bytes(p)
	p.Sorters[0].Desc = nil
	if err != api.OK || string(b) != string(bytesOf(p)) {
		t.Errorf("error %d, %q", err, b)
	}
	p.Code = []api.Instr{}
	checks(t, "no code", p, false)
}
