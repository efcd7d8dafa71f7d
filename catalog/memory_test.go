package catalog

import (
	"reflect"
	"slices"
	"testing"
	"unsafe"

	"cardindex/api"
)

// memory_test.go: R2 to R4: what stands beside an error; memory that is shared with nobody; answers that hang on nothing else.

// memory is what a call is handed: each list with spare room that has something in it, each text where it can be written over.
type memory struct {
	untouched []func() bool
	spoil     []func()
}

// roomy is a list in memory of its own, with spare room.
func roomy[T any](m *memory, list []T, spare T) []T {
	told := append(slices.Clone(list), spare, spare, spare)
	room, was := told[len(list):], slices.Clone(told[len(list):])
	m.untouched = append(m.untouched, func() bool { return reflect.DeepEqual(room, was) })
	m.spoil = append(m.spoil, func() {
		for i := range told {
			told[i] = spare
		}
	})
	return told[:len(list)]
}

// text is a text that can be written over.
func (m *memory) text(s string) string {
	bytes := []byte(s)
	m.spoil = append(m.spoil, func() {
		for i := range bytes {
			bytes[i] = 'z'
		}
	})
	return unsafe.String(unsafe.SliceData(bytes), len(bytes))
}

func (m *memory) cols(list []api.Col) []api.Col {
	told := roomy(m, list, api.Col{Name: "spare"})
	for i, c := range told {
		told[i].Name = m.text(c.Name)
	}
	return told
}

func (m *memory) table(t api.Table) api.Table {
	t.Name, t.Cols = m.text(t.Name), m.cols(t.Cols)
	return t
}

func (m *memory) schema(s api.Schema) api.Schema {
	s.Tables = roomy(m, s.Tables, api.Table{Name: "spare", Cols: columns(1)})
	for i, t := range s.Tables {
		s.Tables[i] = m.table(t)
	}
	s.Indexes = roomy(m, s.Indexes, api.Index{Name: "spare", Cols: []api.IndexCol{{Col: 8}}})
	for i, x := range s.Indexes {
		s.Indexes[i].Name, s.Indexes[i].Table = m.text(x.Name), m.text(x.Table)
		s.Indexes[i].Cols = roomy(m, x.Cols, api.IndexCol{Col: 9})
	}
	return s
}

func (m *memory) stmt(x api.Stmt) api.Stmt {
	x.Table, x.Name, x.Cols = m.text(x.Table), m.text(x.Name), m.cols(x.Cols)
	x.Keys = roomy(m, x.Keys, api.KeyCol{Name: "spare"})
	for i, k := range x.Keys {
		x.Keys[i].Name = m.text(k.Name)
	}
	return x
}

// isUntouched: is what was handed in still what it was, its spare room too?
func (m *memory) isUntouched() bool {
	return !slices.ContainsFunc(m.untouched, func(is func() bool) bool { return !is() })
}

func (m *memory) isSpoilt() {
	for _, spoil := range m.spoil {
		spoil()
	}
}

// texts is statements, some of which the full schema refuses.
var texts = []string{"create table x (a unique, b not null, c unique)", "create table t (a)", "create table x (a, a)", "create unique index x on t (b, a desc)", "create index i on t (a)", "create index x on none (a)", "create index x on t (a, z)", "create index x on t (a, a)", "drop table t", "drop table u", "drop table w", "drop table x", "drop index i", "drop index k", "drop index x", "select a from t"}

// answers is what is told of a schema by all calls that tell something of it, as a schema.
func answers(s api.Schema, x api.Stmt) map[string]api.Schema {
	told := map[string]api.Schema{}
	told["Apply"], _ = Apply(s, x)
	for _, name := range []string{"t", "u", "w", "none", "#t.c", "i", "j"} {
		t, _ := Table(s, name)
		i, _ := Index(s, name)
		told[name] = api.Schema{Tables: []api.Table{t}, Indexes: []api.Index{i}}
		told["of "+name] = api.Schema{Indexes: Of(s, name)}
	}
	return told
}

// R3: what is handed in is not changed, its spare room neither; what is told stays what it is, whatever becomes of that memory.
func TestWhatIsToldSharesNothing(t *testing.T) {
	for _, s := range []api.Schema{full(), twice(), begun(), {}} {
		for _, text := range texts {
			want := answers(copied(s), said(text))
			m := &memory{}
			handed, x := m.schema(s), m.stmt(said(text))
			got := answers(handed, x)
			right := Right(handed)
			at, ok := Column(m.table(api.Table{Cols: columns(3)}), m.text("c2"))
			if !m.isUntouched() || !same(handed, s) || !reflect.DeepEqual(plain(x), plain(said(text))) {
				t.Errorf("%s: what is handed in is changed", text)
			}
			m.isSpoilt()
			if right != Right(s) || at != 2 || !ok {
				t.Errorf("%v, %d, %v", right, at, ok)
			}
			for name, told := range got {
				if !same(told, want[name]) {
					t.Errorf("%s, %s: %+v, not %+v", text, name, told, want[name])
				}
			}
		}
	}
}

// plain is a statement with each empty list as none.
func plain(x api.Stmt) api.Stmt {
	if len(x.Cols) == 0 {
		x.Cols = nil
	}
	if len(x.Keys) == 0 {
		x.Keys = nil
	}
	return x
}

// R3: no two lists of an answer share memory, their spare room neither; nor does an answer share any with what was handed in.
func TestListsShareNothing(t *testing.T) {
	for _, text := range texts {
		s := full()
		for name, told := range answers(s, said(text)) {
			want := copied(told)
			_ = append(told.Tables, api.Table{Name: "more"})
			_ = append(told.Indexes, api.Index{Name: "more"})
			for _, x := range told.Tables {
				_ = append(x.Cols, api.Col{Name: "more"})
			}
			for _, x := range told.Indexes {
				_ = append(x.Cols, api.IndexCol{Col: 77})
			}
			if !same(told, want) {
				t.Errorf("%s, %s: %+v", text, name, told)
			}
			spoilLists(told)
			if !same(s, full()) {
				t.Fatalf("%s, %s: %+v", text, name, s)
			}
		}
	}
	x := said("create table x (a, b unique)")
	told, _ := Apply(full(), x)
	spoilLists(told)
	if !reflect.DeepEqual(x, said("create table x (a, b unique)")) {
		t.Errorf("%+v", x)
	}
}

// spoilLists writes over all lists of a schema.
func spoilLists(s api.Schema) {
	for i := range s.Tables {
		for k := range s.Tables[i].Cols {
			s.Tables[i].Cols[k] = api.Col{Name: "spoilt"}
		}
		s.Tables[i] = api.Table{Name: "spoilt"}
	}
	for i := range s.Indexes {
		for k := range s.Indexes[i].Cols {
			s.Indexes[i].Cols[k] = api.IndexCol{Col: 99}
		}
		s.Indexes[i] = api.Index{Name: "spoilt"}
	}
}

// R2: nothing stands beside a false.
func TestNothingBesideFalse(t *testing.T) {
	for _, s := range []api.Schema{full(), twice(), {}} {
		for _, name := range []string{"nothing", "T", "#t.b"} {
			if got, ok := Table(s, name); ok || !reflect.DeepEqual(got, api.Table{}) {
				t.Errorf("%q: %+v", name, got)
			}
			if got, ok := Index(s, name); ok || !reflect.DeepEqual(got, api.Index{}) {
				t.Errorf("%q: %+v", name, got)
			}
			if got := Of(s, name); len(got) != 0 {
				t.Errorf("%q: %+v", name, got)
			}
			for _, x := range s.Tables {
				if at, ok := Column(x, name); ok || at != 0 {
					t.Errorf("%q: %d", name, at)
				}
			}
		}
	}
}

// R4: a call's answer hangs on what it is given alone.
func TestAgain(t *testing.T) {
	var first []map[string]api.Schema
	for _, text := range texts {
		first = append(first, answers(full(), said(text)))
	}
	for i := len(texts) - 1; i >= 0; i-- {
		for name, told := range answers(full(), said(texts[i])) {
			if !same(told, first[i][name]) {
				t.Errorf("%s, %s: another answer", texts[i], name)
			}
		}
	}
}
