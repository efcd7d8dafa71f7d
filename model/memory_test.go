package model

import (
	"reflect"
	"slices"
	"strings"
	"testing"
	"unsafe"

	"cardindex/api"
)

// memory_test.go: R2 to R4: what stands beside an error; memory that is shared with nobody; answers that hang on nothing else.

// asked is a statement, and what it is asked of.
type asked struct {
	S     api.Schema
	D     api.Data
	R     api.Res
	Binds []api.Value
	Got   [][]api.Value
}

// texts is statements that have something of all there is, and behind the first 15 such as are refused.
var texts = []string{
	"select a, b, ?, 'it', x'0a' from t", "select distinct b, coalesce(c, 'x') from t join u on t.a = u.a where c <> 'z' order by b desc limit 2 offset 0", "select b, max(c), group_concat(t.a), count(*) from t, u group by b having count(*) > 0 order by max(c)", "select * from t, u limit 2 + ?", "select count(*) from v", "select t.a from t order by a limit 1",
	"insert into t values ('new', ?), (null, x'00')", "insert into u select a, b from t where a is not null", "insert into v (d) select 'x' || a from t", "insert into v select d from v",
	"update t set b = a, a = b where a <> 'two'", "update u set c = 'y' || c where c > 'p'", "update t set b = 'it'", "delete from t where b = 'ten'", "delete from v",
	"insert into t values ('one', 1)", "insert into u (c) values ('q')", "insert into u values (1 + 9223372036854775807, 'x')", "update t set a = 'two'", "update u set a = null", "update t set b = b + 1 + 9223372036854775807", "delete from u where a + 9223372036854775807 > '0'", "select a + 9223372036854775807 from u", "select a from u limit 'x'", "select sum(9223372036854775807) from u", "insert into v select 9223372036854775807 + a from u",
}

// allAsked is what is asked: each text, of rows of texts; and some that are wrong ahead of that.
func allAsked() []asked {
	b := made("create table t (a unique, b)", "create table u (a not null, c)", "create table v (d)", "create index i on t (b desc, a)",
		"insert into t values ('one', 'ten'), ('two', null), (null, 'ten'), ('three', x'ff')", "insert into u values ('1one', 'p'), ('two', 'q'), ('1one', 'r')")
	var told []asked
	for _, said := range texts {
		told = append(told, asked{b.s, b.d, b.said(said), list(text("a bind"), num(1)), [][]api.Value{list(text("p"), text("q")), list(text("one"))}})
	}
	wrong := told[6]
	wrong.Binds = wrongValues()
	told = append(told, wrong)
	wrong = told[1]
	wrong.D = api.Data{Rows: [][]api.Row{{row(1, text("a")), row(0, text("b"), text("c"))}, {row(7)}, nil, nil}}
	told = append(told, wrong)
	wrong = told[10]
	wrong.R.Table.Name = "none"
	wrong.R.Where = []api.Expr{over()}
	return append(told, wrong)
}

// answer is what all calls answer.
type answer struct {
	Right, Admitted, Own bool
	Told                 [][]api.Value
	Err                  api.Errno
	Then                 api.Data
	N                    int
	Changed              api.Errno
}

func answerOf(x asked) answer {
	var a answer
	var q api.Query
	if len(x.R.Query) > 0 {
		q = x.R.Query[0]
	}
	a.Right = Right(x.S, x.D)
	a.Told, a.Err = Query(x.S, x.D, q, x.Binds)
	a.Admitted = Admits(x.S, x.D, q, x.Binds, x.Got)
	a.Own = Admits(x.S, x.D, q, x.Binds, a.Told)
	a.Then, a.N, a.Changed = Change(x.S, x.D, x.R, x.Binds)
	return a
}

// memory is what a call is handed: lists with spare room that has something in it, texts that can be written over.
type memory struct {
	rooms []reflect.Value
	spoil []func()
}

// put is a copy of anything in such memory.
func (m *memory) put(v reflect.Value) reflect.Value {
	told := reflect.New(v.Type()).Elem()
	switch v.Kind() {
	case reflect.Struct:
		for i := range v.NumField() {
			told.Field(i).Set(m.put(v.Field(i)))
		}
	case reflect.Slice:
		all := reflect.MakeSlice(v.Type(), v.Len()+3, v.Len()+3)
		for i := range all.Len() {
			if i < v.Len() {
				all.Index(i).Set(m.put(v.Index(i)))
			} else {
				mark(all.Index(i))
			}
		}
		m.rooms = append(m.rooms, all.Slice(v.Len(), all.Len()))
		m.spoil = append(m.spoil, func() {
			for i := range all.Len() {
				mark(all.Index(i))
			}
		})
		told.Set(all.Slice(0, v.Len()))
	case reflect.String:
		bytes := []byte(v.String())
		told.SetString(unsafe.String(unsafe.SliceData(bytes), len(bytes)))
		m.spoil = append(m.spoil, func() {
			for i := range bytes {
				bytes[i] = 'z'
			}
		})
	default:
		told.Set(v)
	}
	return told
}

// mark puts something into a place.
func mark(v reflect.Value) {
	switch v.Kind() {
	case reflect.String:
		v.SetString("spare")
	case reflect.Slice:
		v.Set(reflect.MakeSlice(v.Type(), 1, 1))
	case reflect.Struct:
		v.SetZero()
		mark(v.Field(0))
	case reflect.Int:
		v.SetInt(77)
	case reflect.Uint8:
		v.SetUint(77)
	}
}

// isUntouched: is the spare room what it was?
func (m *memory) isUntouched() bool {
	return !slices.ContainsFunc(m.rooms, func(room reflect.Value) bool {
		want := reflect.New(room.Type().Elem()).Elem()
		mark(want)
		for i := range room.Len() {
			if !reflect.DeepEqual(room.Index(i).Interface(), want.Interface()) {
				return true
			}
		}
		return false
	})
}

// handed is a copy of anything in such memory.
func handed[T any](m *memory, x T) T {
	return m.put(reflect.ValueOf(x)).Interface().(T)
}

// plain is anything with each empty list as none, in memory of its own.
func plain[T any](x T) T {
	var walk func(v reflect.Value) reflect.Value
	walk = func(v reflect.Value) reflect.Value {
		told := reflect.New(v.Type()).Elem()
		switch v.Kind() {
		case reflect.Struct:
			for i := range v.NumField() {
				told.Field(i).Set(walk(v.Field(i)))
			}
		case reflect.Slice:
			for i := range v.Len() {
				told.Set(reflect.Append(told, walk(v.Index(i))))
			}
		case reflect.String:
			told.SetString(strings.Clone(v.String()))
		default:
			told.Set(v)
		}
		return told
	}
	return walk(reflect.ValueOf(x)).Interface().(T)
}

// R3: what is handed in is not changed, its spare room neither; what is told stays what it is, whatever becomes of that memory.
func TestWhatIsToldSharesNothing(t *testing.T) {
	for i, x := range allAsked() {
		want, ahead := plain(answerOf(x)), plain(x)
		m := &memory{}
		x = handed(m, x)
		got := answerOf(x)
		if !m.isUntouched() || !reflect.DeepEqual(plain(x), ahead) {
			t.Errorf("%d: what is handed in is changed", i)
		}
		for _, spoil := range m.spoil {
			spoil()
		}
		if !reflect.DeepEqual(plain(got), want) {
			t.Errorf("%d: %+v, not %+v", i, got, want)
		}
	}
}

// room is a list's memory, spare room and all: from where to where, and which list it is.
type room struct {
	from, to uintptr
	where    string
}

// rooms is the memory of all lists that stand in anything.
func rooms(v reflect.Value, where string) []room {
	var all []room
	switch v.Kind() {
	case reflect.Struct:
		for i := range v.NumField() {
			all = append(all, rooms(v.Field(i), where+"."+v.Type().Field(i).Name)...)
		}
	case reflect.Slice:
		if v.Cap() > 0 {
			all = append(all, room{v.Pointer(), v.Pointer() + uintptr(v.Cap())*v.Type().Elem().Size(), where})
		}
		for i := range v.Len() {
			all = append(all, rooms(v.Index(i), where+"[]")...)
		}
	}
	return all
}

// R3: no two lists of answers share memory, their spare room neither; nor with what was handed in.
func TestListsShareNothing(t *testing.T) {
	var kept []any // as long as it is kept, no other list can stand where it stands
	var all []room
	for _, x := range allAsked() {
		m := &memory{}
		x = handed(m, x)
		one, two := answerOf(x), answerOf(x)
		kept = append(kept, x, one, two)
		for _, v := range kept[len(kept)-3:] {
			all = append(all, rooms(reflect.ValueOf(v), reflect.TypeOf(v).Name())...)
		}
	}
	slices.SortFunc(all, func(a, b room) int { return int(int64(a.from) - int64(b.from)) })
	for i := range all[1:] {
		if all[i].to > all[i+1].from {
			t.Errorf("%s shares memory with %s", all[i].where, all[i+1].where)
		}
	}
	if len(all) < 1000 || len(kept) != 3*len(allAsked()) {
		t.Errorf("%d lists alone", len(all))
	}
}

// R2: nothing stands beside an error; but beside one of Change the rows as they were.
func TestNothingBesideErrors(t *testing.T) {
	refused, changed := 0, 0
	for i, x := range allAsked() {
		a := answerOf(x)
		if a.Err != api.OK {
			refused++
			if len(a.Told) > 0 {
				t.Errorf("%d: %s beside error %d", i, showList(a.Told), a.Err)
			}
		}
		if a.Changed != api.OK {
			changed++
			if a.N != 0 || !reflect.DeepEqual(plain(a.Then), plain(x.D)) {
				t.Errorf("%d: %d, %s beside error %d", i, a.N, showData(a.Then), a.Changed)
			}
		} else if i < 6 || i >= 15 {
			t.Errorf("%d is done", i)
		}
		if !a.Own {
			t.Errorf("%d: %s is not admitted", i, showList(a.Told))
		}
	}
	if refused != 6 || changed != 20 {
		t.Errorf("%d, %d refused", refused, changed)
	}
}

// R4: a call's answer hangs on what it is given alone.
func TestAgain(t *testing.T) {
	var first []answer
	for _, x := range allAsked() {
		first = append(first, answerOf(x))
	}
	for i, x := range slices.Backward(allAsked()) {
		answerOf(asked{})
		if a := answerOf(x); !reflect.DeepEqual(a, first[i]) {
			t.Errorf("%d: another answer", i)
		}
	}
}
