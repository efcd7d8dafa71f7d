package resolve

import (
	"reflect"
	"slices"
	"strings"
	"testing"
	"unsafe"

	"cardindex/api"
)

// memory_test.go: R2 to R4: what stands beside an error; memory that is shared with nobody; answers that hang on nothing else.

// texts is statements that have something of all there is, and behind the first 12 such as the base refuses.
var texts = []string{
	"select distinct *, x.*, length(a) as n, sum(distinct x.b + 1), 'it', x'0a', ?, not a is null, cast(c as text) from t as x, u join v as y on e = d where a in (x.b, ?) group by a, x.b, c, u.b, d, e having count(*) > 'z' order by n desc, 'it', sum(distinct x.b + 1) limit 1 offset 2",
	"select *, a + 1 as n, 'it' as m from t join v on e = 'x' join u on d = 'y' where 1 order by n, m, lower('w') limit length('q')",
	"insert into t (c, a) values (1, 'c'), (?, x'00')", "insert into u select b, upper('x') as z from t order by z", "insert into t values ('a', 'b', 'c')",
	"update t set a = 'b', c = substr(b, 1) where b like 'x'", "delete from t where a not in (1, 'y')",
	"create table x (a not null unique, b)", "create unique index j on t (a desc, b)", "drop table t", "drop index i", "commit",
	"select z from t", "select a from x", "select a from t, t", "select b from t, u", "select f(a) from t", "select sum(sum(a)) from t", "select a from t group by b", "insert into t values (1)", "select distinct 'x' from t order by 'y'", "update t set a = 'x', a = 'y'",
}

// memory is what a call is handed: lists with spare room that has something in it, texts that can be written over.
type memory struct {
	rooms []reflect.Value
	spoil []func()
}

// put is a copy of anything in such memory.
func (m *memory) put(v reflect.Value) reflect.Value {
	told := reflect.New(v.Type()).Elem()
	switch v.Kind() {
	case reflect.Struct:
		for i := range v.NumField() {
			told.Field(i).Set(m.put(v.Field(i)))
		}
	case reflect.Slice:
		all := reflect.MakeSlice(v.Type(), v.Len()+3, v.Len()+3)
		for i := range all.Len() {
			if i < v.Len() {
				all.Index(i).Set(m.put(v.Index(i)))
			} else {
				mark(all.Index(i))
			}
		}
		m.rooms = append(m.rooms, all.Slice(v.Len(), all.Len()))
		m.spoil = append(m.spoil, func() {
			for i := range all.Len() {
				mark(all.Index(i))
			}
		})
		told.Set(all.Slice(0, v.Len()))
	case reflect.String:
		bytes := []byte(v.String())
		told.SetString(unsafe.String(unsafe.SliceData(bytes), len(bytes)))
		m.spoil = append(m.spoil, func() {
			for i := range bytes {
				bytes[i] = 'z'
			}
		})
	default:
		told.Set(v)
	}
	return told
}

// mark puts something into a place.
func mark(v reflect.Value) {
	switch v.Kind() {
	case reflect.String:
		v.SetString("spare")
	case reflect.Slice:
		v.Set(reflect.MakeSlice(v.Type(), 1, 1))
	case reflect.Struct:
		v.SetZero()
		mark(v.Field(0))
	case reflect.Int:
		v.SetInt(77)
	case reflect.Uint8:
		v.SetUint(77)
	}
}

// isUntouched: is the spare room what it was?
func (m *memory) isUntouched() bool {
	return !slices.ContainsFunc(m.rooms, func(room reflect.Value) bool {
		want := reflect.New(room.Type().Elem()).Elem()
		mark(want)
		for i := range room.Len() {
			if !reflect.DeepEqual(room.Index(i).Interface(), want.Interface()) {
				return true
			}
		}
		return false
	})
}

// handed is a copy of anything in such memory.
func handed[T any](m *memory, x T) T {
	return m.put(reflect.ValueOf(x)).Interface().(T)
}

// plain is anything with each empty list as none, in memory of its own.
func plain[T any](x T) T {
	var walk func(v reflect.Value) reflect.Value
	walk = func(v reflect.Value) reflect.Value {
		told := reflect.New(v.Type()).Elem()
		switch v.Kind() {
		case reflect.Struct:
			for i := range v.NumField() {
				told.Field(i).Set(walk(v.Field(i)))
			}
		case reflect.Slice:
			for i := range v.Len() {
				told.Set(reflect.Append(told, walk(v.Index(i))))
			}
		case reflect.String:
			told.SetString(strings.Clone(v.String()))
		default:
			told.Set(v)
		}
		return told
	}
	return walk(reflect.ValueOf(x)).Interface().(T)
}

// R3: what is handed in is not changed, its spare room neither; what is told stays what it is, whatever becomes of that memory.
func TestWhatIsToldSharesNothing(t *testing.T) {
	for _, text := range texts {
		want, wantErr := Resolve(base(), said(text))
		want = plain(want)
		m := &memory{}
		s, x := handed(m, base()), handed(m, said(text))
		got, err := Resolve(s, x)
		if !m.isUntouched() || !reflect.DeepEqual(plain(s), plain(base())) || !reflect.DeepEqual(plain(x), plain(said(text))) {
			t.Errorf("%s: what is handed in is changed", text)
		}
		for _, spoil := range m.spoil {
			spoil()
		}
		if err != wantErr || !reflect.DeepEqual(plain(got), want) {
			t.Errorf("%s: %s, error %d, not %s", text, spellRes(got), err, spellRes(want))
		}
	}
}

// room is a list's memory, spare room and all: from where to where, and which list it is.
type room struct {
	from, to uintptr
	where    string
}

// rooms is the memory of all lists that stand in anything.
func rooms(v reflect.Value, where string) []room {
	var all []room
	switch v.Kind() {
	case reflect.Struct:
		for i := range v.NumField() {
			all = append(all, rooms(v.Field(i), where+"."+v.Type().Field(i).Name)...)
		}
	case reflect.Slice:
		if v.Cap() > 0 {
			all = append(all, room{v.Pointer(), v.Pointer() + uintptr(v.Cap())*v.Type().Elem().Size(), where})
		}
		for i := range v.Len() {
			all = append(all, rooms(v.Index(i), where+"[]")...)
		}
	}
	return all
}

// R3: no two lists of answers share memory, their spare room neither; nor with what was handed in.
func TestListsShareNothing(t *testing.T) {
	var kept []any // as long as it is kept, no other list can stand where it stands
	var all []room
	for range 2 {
		for _, text := range texts {
			s, x := base(), said(text)
			got, _ := Resolve(s, x)
			kept = append(kept, s, x, got)
			all = append(all, rooms(reflect.ValueOf(x), text)...)
			all = append(all, rooms(reflect.ValueOf(got), "resolved: "+text)...)
		}
	}
	all = append(all, rooms(reflect.ValueOf(theBase), "the schema")...)
	slices.SortFunc(all, func(a, b room) int { return int(int64(a.from) - int64(b.from)) })
	for i := range all[1:] {
		if all[i].to > all[i+1].from {
			t.Errorf("%s shares memory with %s", all[i].where, all[i+1].where)
		}
	}
	if len(all) < 300 || len(kept) != 6*len(texts) {
		t.Errorf("%d lists alone", len(all))
	}
}

// R2: nothing stands beside an error.
func TestNothingBesideErrors(t *testing.T) {
	for i, text := range texts {
		got, err := Resolve(base(), said(text))
		if (err != api.OK) != (i >= 12) || (err != api.OK) != reflect.DeepEqual(got, api.Res{}) {
			t.Errorf("%s: %s beside error %d", text, spellRes(got), err)
		}
	}
}

// R4: a call's answer hangs on what it is given alone.
func TestAgain(t *testing.T) {
	type answer struct {
		res api.Res
		err api.Errno
	}
	answerOf := func(text string) answer {
		res, err := Resolve(base(), said(text))
		return answer{res, err}
	}
	var first []answer
	for _, text := range texts {
		first = append(first, answerOf(text))
	}
	for i := len(texts) - 1; i >= 0; i-- {
		if !reflect.DeepEqual(answerOf(texts[i]), first[i]) {
			t.Errorf("%s: another answer", texts[i])
		}
	}
}
