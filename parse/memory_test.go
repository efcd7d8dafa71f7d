package parse

import (
	"reflect"
	"strings"
	"testing"
	"unsafe"

	"cardindex/api"
)

// memory_test.go: R2 to R4: what stands beside an error; memory that is shared with nobody; answers that hang on nothing else.

// full is statements that have something of all there is.
func full() []api.Stmt {
	var told []api.Stmt
	for _, said := range []string{
		"select distinct *, t.*, t.a as b, f(a, 'it''s', x'0a', null), g(distinct ?), - 1, cast(a as text) from t as u, v join w as x on not a is null where a in (b, ?) group by c, d having e like 'z' order by g desc, h limit 1 offset 2",
		"insert into t (a, b) values (1, 'c'), (?, x'00')", "insert into t (a) select b from c", "update t set a = 'b', c = d where e", "delete from t where a not in (1, 2)", "create table t (a not null unique, b)", "create unique index i on t (a desc, b)", "drop table t", "drop index i", "commit",
	} {
		s, _ := Parse(said)
		told = append(told, s)
	}
	return told
}

// R3: what is parsed stays what it is, whatever becomes of the text's memory.
func TestWhatIsParsedSharesNothing(t *testing.T) {
	for _, s := range full() {
		said, _ := Show(s)
		for _, said := range []string{said, strings.ToUpper(said)} {
			want, _ := Parse(strings.Clone(said))
			memory := []byte(said)
			got, f := Parse(unsafe.String(unsafe.SliceData(memory), len(memory)))
			if f != (api.Fault{}) || string(memory) != said {
				t.Errorf("%q: fault %v, or it is changed", said, f)
			}
			for i := range memory {
				memory[i] = 'U'
			}
			if !reflect.DeepEqual(got, want) {
				t.Errorf("%q: %+v", said, got)
			}
		}
	}
}

// R3: no two lists of what is parsed share memory, their spare room neither.
func TestListsShareNothing(t *testing.T) {
	owner := map[uintptr]string{}
	var walk func(v reflect.Value, where string)
	walk = func(v reflect.Value, where string) {
		switch v.Kind() {
		case reflect.Struct:
			for i := range v.NumField() {
				walk(v.Field(i), where+"."+v.Type().Field(i).Name)
			}
		case reflect.Slice:
			all := v
			if v.Cap() > 0 {
				all = v.Slice(0, v.Cap())
			}
			for i := range all.Len() {
				at := all.Index(i).Addr().Pointer()
				if other, there := owner[at]; there {
					t.Errorf("%s shares memory with %s", where, other)
				}
				owner[at] = where
			}
			for i := range v.Len() {
				if k := v.Index(i).Kind(); k == reflect.Slice {
					walk(v.Index(i), where+"[]")
				} else if k == reflect.Struct {
					for j := range v.Index(i).NumField() {
						walk(v.Index(i).Field(j), where+"[]."+v.Index(i).Type().Field(j).Name)
					}
				}
			}
		}
	}
	statements := append(full(), full()...)
	for i := range statements {
		walk(reflect.ValueOf(statements[i]), "")
	}
	if len(owner) < 100 {
		t.Errorf("%d places alone", len(owner))
	}
}

// roomy is a statement in memory of its own, each list with spare room that has something in it; and what asks whether that is still there.
func roomy(s api.Stmt) (api.Stmt, func() bool) {
	told := plain(s)
	var rooms []reflect.Value
	var walk func(v reflect.Value)
	walk = func(v reflect.Value) {
		switch v.Kind() {
		case reflect.Struct:
			for i := range v.NumField() {
				walk(v.Field(i))
			}
		case reflect.Slice:
			for i := range v.Len() {
				walk(v.Index(i))
			}
			room := reflect.MakeSlice(v.Type(), v.Len()+3, v.Len()+3)
			reflect.Copy(room, v)
			for i := range 3 {
				mark(room.Index(v.Len() + i))
			}
			rooms = append(rooms, room.Slice(v.Len(), v.Len()+3))
			v.Set(room.Slice(0, v.Len()))
		}
	}
	walk(reflect.ValueOf(&told).Elem())
	return told, func() bool {
		for _, room := range rooms {
			want := reflect.New(room.Type().Elem()).Elem()
			mark(want)
			for i := range room.Len() {
				if !reflect.DeepEqual(room.Index(i).Interface(), want.Interface()) {
					return false
				}
			}
		}
		return true
	}
}

// mark puts something into a place.
func mark(v reflect.Value) {
	switch v.Kind() {
	case reflect.String:
		v.SetString("spare")
	case reflect.Slice:
		v.Set(reflect.MakeSlice(v.Type(), 1, 1))
	case reflect.Struct:
		mark(v.Field(0))
	case reflect.Bool:
		v.SetBool(true)
	case reflect.Uint8:
		v.SetUint(77)
	}
}

// R3: what is handed in is not changed, its spare room neither; what is shown stays what it is.
func TestWhatIsShownSharesNothing(t *testing.T) {
	wrong := tell(name("A"), in(0, a, b))
	for _, s := range append(full(), wrong) {
		want, wantErr := Show(plain(s))
		handed, untouched := roomy(s)
		shown, err := Show(handed)
		right := Right(handed)
		if !untouched() || !same(handed, s) {
			t.Errorf("%q: what is handed in is changed", want)
		}
		spoilt(&handed, func() {
			if shown != want || err != wantErr || right != (err == api.OK) {
				t.Fatalf("%q: shown %q", want, shown)
			}
		})
	}
	memory := []byte("drop")
	s := api.Stmt{Kind: api.SDropT, Table: unsafe.String(unsafe.SliceData(memory), len(memory))}
	copy(memory, "name")
	shown, _ := Show(s)
	copy(memory, "some")
	if shown != "drop table name" {
		t.Errorf("%q", shown)
	}
}

// R2: no statement beside a fault, no place beside none; no text beside an error.
func TestNothingBesideErrors(t *testing.T) {
	for _, text := range []string{"", "select", "select a from t where", "insert into t (a, b) values (1, 'x'", "select 'a", "update t set a = 1, b = @", "select " + strings.Repeat("(", 300), "select " + strings.Repeat("1 + ", 80) + "1", strings.Repeat(" ", api.MaxText+1), "create table t (a,"} {
		s, f := Parse(text)
		if f.Err == api.OK || !reflect.DeepEqual(s, api.Stmt{}) {
			t.Errorf("%q: %+v, fault %v", short(text), s, f)
		}
	}
	for _, text := range []string{"begin", " select a ; ", "drop table t"} {
		if _, f := Parse(text); f != (api.Fault{}) {
			t.Errorf("%q: fault %v", text, f)
		}
	}
	for _, s := range []api.Stmt{{}, tell(bind(1)), tell(a, text(strings.Repeat("x", api.MaxText)))} {
		if shown, err := Show(s); shown != "" || err == api.OK {
			t.Errorf("%q, error %d", short(shown), err)
		}
	}
}

// R4: a call's answer hangs on what it is given alone.
func TestAgain(t *testing.T) {
	c := newChance(4)
	texts := []string{"select ?, ?", "select " + strings.Repeat("(", 300), "select 'a", "select a b"}
	for range 50 {
		texts = append(texts, (speller{}).stmt(c.stmt()))
	}
	type answer struct {
		s     api.Stmt
		f     api.Fault
		shown string
		err   api.Errno
		right bool
	}
	answers := func(text string) answer {
		s, f := Parse(text)
		shown, err := Show(s)
		return answer{s, f, shown, err, Right(s)}
	}
	var first []answer
	for _, text := range texts {
		first = append(first, answers(text))
	}
	for i := len(texts) - 1; i >= 0; i-- {
		if !reflect.DeepEqual(answers(texts[i]), first[i]) {
			t.Errorf("%q: another answer", texts[i])
		}
	}
}
