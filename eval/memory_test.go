package eval

import (
	"reflect"
	"slices"
	"strings"
	"testing"
	"unsafe"

	"cardindex/api"
)

// memory_test.go: R2 to R4: what stands beside an error; memory that is shared with nobody; answers that hang on nothing else.

// memory is what a call is handed: lists with spare room that has something in it, texts that can be written over.
type memory struct {
	rooms []reflect.Value
	texts [][]byte
}

// put is a copy of anything in such memory.
func (m *memory) put(v reflect.Value) reflect.Value {
	told := reflect.New(v.Type()).Elem()
	switch v.Kind() {
	case reflect.Struct:
		for i := range v.NumField() {
			told.Field(i).Set(m.put(v.Field(i)))
		}
	case reflect.Slice:
		all := reflect.MakeSlice(v.Type(), v.Len()+3, v.Len()+3)
		for i := range all.Len() {
			if i < v.Len() {
				all.Index(i).Set(m.put(v.Index(i)))
			} else {
				mark(all.Index(i))
			}
		}
		m.rooms = append(m.rooms, all.Slice(v.Len(), all.Len()))
		told.Set(all.Slice(0, v.Len()))
	case reflect.String:
		bytes := []byte(v.String())
		told.SetString(unsafe.String(unsafe.SliceData(bytes), len(bytes)))
		m.texts = append(m.texts, bytes)
	default:
		told.Set(v)
	}
	return told
}

// mark puts something into a place.
func mark(v reflect.Value) {
	switch v.Kind() {
	case reflect.Slice:
		v.Set(reflect.MakeSlice(v.Type(), 1, 1))
	case reflect.Struct:
		v.SetZero()
		mark(v.Field(0))
	case reflect.Uint8:
		v.SetUint(77)
	}
}

// isUntouched: is the spare room what it was?
func (m *memory) isUntouched() bool {
	return !slices.ContainsFunc(m.rooms, func(room reflect.Value) bool {
		want := reflect.New(room.Type().Elem()).Elem()
		mark(want)
		for i := range room.Len() {
			if !reflect.DeepEqual(room.Index(i).Interface(), want.Interface()) {
				return true
			}
		}
		return false
	})
}

// handed is a copy of anything in such memory.
func handed[T any](m *memory, x T) T {
	return m.put(reflect.ValueOf(x)).Interface().(T)
}

// shown is anything as a text, in memory of its own.
func shown(e api.Expr, x api.Env) string {
	all := spell(e)
	for _, l := range append(slices.Clone(x.Rows), x.Keys, x.Totals, x.Binds) {
		for _, v := range l {
			all += " " + short(v)
		}
		all += ";"
	}
	return strings.Clone(all)
}

// few is expressions whose values are texts and blobs as they stand somewhere, and others.
func few() []api.Expr {
	return []api.Expr{
		litText("it"), litBlob("is"), bind(1), bind(2), key(1), total(0), this(1, 0), said("coalesce(b, c)"), said("ifnull(c, a)"), said("cast(c as text)"), said("substr(c, 1)"), cast("text", bind(1)),
		said("c || ''"), said("upper(c)"), said("hex(c)"), said("typeof(c)"), said("a in (1, 'x', c)"), said("c not in ('x', null)"), said("c is null"), said("a + ? * 2"), said("length('long')"),
		over(), op("none", litText("a")), call("none", litText("a"), litText("b")), expr(api.EStar, "s", litText("a")), in(1, litText("a"), litText("b"), over()),
	}
}

// R3: what is handed in is not changed, its spare room neither; what is told stays what it is, whatever becomes of that memory.
func TestWhatIsToldSharesNothing(t *testing.T) {
	for _, e := range few() {
		want, wantErr := Eval(e, some())
		want.S = strings.Clone(want.S)
		sources := slices.Clone(Sources(e))
		m := &memory{}
		e, x := handed(m, e), handed(m, some())
		ahead := shown(e, x)
		got, err := Eval(e, x)
		yes, trueErr := True(e, x)
		safe, told := Safe(e), Sources(e)
		if !m.isUntouched() || shown(e, x) != ahead {
			t.Errorf("%s: what is handed in is changed", ahead)
		}
		for _, text := range m.texts {
			for i := range text {
				text[i] = 'z'
			}
		}
		if got != want || err != wantErr || yes != isTrue(want) || trueErr != wantErr || safe && err != api.OK || !slices.Equal(told, sources) {
			t.Errorf("%s: %s, error %d, not %s", ahead, short(got), err, short(want))
		}
	}
}

// R3: a list of sources is new each time.
func TestSourcesAreNew(t *testing.T) {
	e := said("a + c")
	one, two := Sources(e), Sources(e)
	one[0], one = 9, append(one, 7)
	if !slices.Equal(two, []int{0, 1}) || !slices.Equal(Sources(e), []int{0, 1}) || len(one) != 3 {
		t.Error(one, two)
	}
}

// R2: nothing stands beside an error.
func TestNothingBesideErrors(t *testing.T) {
	errors := 0
	for _, e := range few() {
		v, err := Eval(e, some())
		yes, trueErr := True(e, some())
		if err != trueErr || err != api.OK && (v != null || yes) {
			t.Errorf("%s: %s, %v beside error %d", spell(e), short(v), yes, err)
		}
		if err != api.OK {
			errors++
		}
	}
	if errors != 5 {
		t.Errorf("%d errors", errors)
	}
}

// R4: a call's answer hangs on what it is given alone.
func TestAgain(t *testing.T) {
	type answer struct {
		v   api.Value
		err api.Errno
	}
	var first []answer
	for _, e := range few() {
		v, err := Eval(e, some())
		first = append(first, answer{v, err})
	}
	for i, e := range slices.Backward(few()) {
		Eval(e, api.Env{})
		if v, err := Eval(e, some()); first[i] != (answer{v, err}) {
			t.Errorf("%s: another answer", spell(e))
		}
	}
}
