package catalog

import (
	"strings"
	"testing"

	"cardindex/api"
)

// right_test.go: P11.1, which schemas are right.

// is asks whether a schema is right, and whether the twin says so, too.
func is(t *testing.T, what string, s api.Schema, want bool) {
	t.Helper()
	if got := Right(s); got != want {
		t.Errorf("%s: %v", what, got)
	}
	if wrong := faults(s); (len(wrong) == 0) != want {
		t.Errorf("%s: the twin says %q", what, wrong)
	}
}

func TestRightSchemas(t *testing.T) {
	is(t, "of nothing", begun(), true)
	is(t, "none", api.Schema{}, false)
	is(t, "with empty lists", api.Schema{Version: 1, Next: 1, Tables: []api.Table{}, Indexes: []api.Index{}}, true)
	is(t, "full", full(), true)
	is(t, "twice", twice(), false)
}

// asked is a change of the full schema, and whether it is right then.
type asked struct {
	what string
	want bool
	do   func(s *api.Schema)
}

func ask(t *testing.T, all []asked) {
	t.Helper()
	for _, a := range all {
		s := full()
		a.do(&s)
		is(t, a.what, s, a.want)
	}
}

func TestRightNumbers(t *testing.T) {
	for n, want := range map[int]bool{0: false, -1: false, 1: true, 2: true, 1 << 40: true, 1<<40 + 1: false, -1 << 63: false, 1<<63 - 1: false} {
		is(t, "a version", api.Schema{Version: n, Next: 1}, want)
		is(t, "a next one", api.Schema{Version: 1, Next: n}, want)
	}
	ask(t, []asked{
		{"Next as great as may be", true, func(s *api.Schema) { s.Next = 1 << 40 }},
		{"Next too great", false, func(s *api.Schema) { s.Next = 1<<40 + 1 }},
		{"Next that is a tree's", false, func(s *api.Schema) { s.Next = 8 }},
		{"Next below a tree's", false, func(s *api.Schema) { s.Next = 7 }},
		{"a table's tree 0", false, func(s *api.Schema) { s.Tables[1].Tree = 0 }},
		{"a table's tree below 0", false, func(s *api.Schema) { s.Tables[1].Tree = -4 }},
		{"a table's tree that is the next one", false, func(s *api.Schema) { s.Tables[1].Tree = 9 }},
		{"a table's tree behind the next one", false, func(s *api.Schema) { s.Tables[1].Tree = 10 }},
		{"an index's tree 0", false, func(s *api.Schema) { s.Indexes[3].Tree = 0 }},
		{"an index's tree below 0", false, func(s *api.Schema) { s.Indexes[3].Tree = -1 << 63 }},
		{"an index's tree that is the next one", false, func(s *api.Schema) { s.Indexes[3].Tree = 9 }},
		{"a unique column's tree that is the next one", false, func(s *api.Schema) { s.Indexes[0].Tree = 9 }},
		{"two tables' trees that are one", false, func(s *api.Schema) { s.Tables[1].Tree = 5 }},
		{"two indexes' trees that are one", false, func(s *api.Schema) { s.Indexes[0].Tree = 8 }},
		{"a table's and an index's tree that are one", false, func(s *api.Schema) { s.Indexes[4].Tree = 1 }},
		{"trees that are changed with each other", true, func(s *api.Schema) { s.Indexes[4].Tree, s.Tables[0].Tree = 1, 8 }},
		{"numbers between that no tree has", true, func(s *api.Schema) { s.Next, s.Tables[2].Tree, s.Indexes[1].Tree = 100, 99, 50 }},
	})
}

func TestRightCounts(t *testing.T) {
	for n, want := range map[int]bool{0: true, 1: true, 49: true, 50: true, 51: false, 3000: false} {
		is(t, "tables", tables(n), want)
	}
	for n, want := range map[int]bool{0: true, 1: true, 99: true, 100: true, 101: false, 3000: false} {
		is(t, "indexes", indexes(n), want)
	}
	for n, want := range map[int]bool{0: false, 1: true, 29: true, 30: true, 31: false, 3000: false} {
		is(t, "columns", api.Schema{Version: 1, Next: 2, Tables: []api.Table{{Name: "t", Cols: columns(n), Tree: 1}}}, want)
	}
	s := tables(50)
	for i := range s.Tables {
		s.Tables[i].Cols = columns(30)
	}
	is(t, "as many tables and columns as may be", s, true)
	s.Tables[49].Cols = columns(31)
	is(t, "a column more in the last table", s, false)
	s.Tables[49].Cols = nil
	is(t, "no column in the last table", s, false)
}

func TestRightIndexColumns(t *testing.T) {
	set := func(at int, cols ...api.IndexCol) func(s *api.Schema) {
		return func(s *api.Schema) { s.Indexes[at].Cols = cols }
	}
	ask(t, []asked{
		{"none", false, set(2)},
		{"one", true, set(2, api.IndexCol{Col: 1})},
		{"the last one, falling", true, set(2, api.IndexCol{Col: 2, Desc: true})},
		{"all, falling", true, set(2, api.IndexCol{Col: 0, Desc: true}, api.IndexCol{Col: 1, Desc: true}, api.IndexCol{Col: 2, Desc: true})},
		{"one ahead of the first", false, set(2, api.IndexCol{Col: -1})},
		{"one behind the last", false, set(2, api.IndexCol{Col: 3})},
		{"one behind the last, behind others", false, set(2, api.IndexCol{Col: 0}, api.IndexCol{Col: 3})},
		{"the greatest", false, set(2, api.IndexCol{Col: 1<<63 - 1})},
		{"the least", false, set(2, api.IndexCol{Col: -1 << 63})},
		{"one twice", false, set(2, api.IndexCol{Col: 1}, api.IndexCol{Col: 1})},
		{"one twice, rising and falling", false, set(2, api.IndexCol{Col: 1}, api.IndexCol{Col: 0}, api.IndexCol{Col: 1, Desc: true})},
		{"more than the table has", false, set(3, api.IndexCol{Col: 0}, api.IndexCol{Col: 1})},
		{"more than the table has, one twice", false, set(3, api.IndexCol{Col: 0}, api.IndexCol{Col: 0})},
		{"a column of another table", false, set(3, api.IndexCol{Col: 2})},
		{"of no table", false, func(s *api.Schema) { s.Indexes[3].Table = "none" }},
		{"of a table without a name", false, func(s *api.Schema) { s.Indexes[3].Table = "" }},
		{"of a table in great letters", false, func(s *api.Schema) { s.Indexes[3].Table = "U" }},
		{"of an index", false, func(s *api.Schema) { s.Indexes[3].Table = "i" }},
		{"of another table", true, func(s *api.Schema) { s.Indexes[3].Table = "w" }},
		{"of a table that is gone", false, func(s *api.Schema) { s.Tables = append(s.Tables[:1], s.Tables[2]) }},
		{"of no table there is", false, func(s *api.Schema) { s.Tables = nil }},
		{"no index of what is not unique", true, func(s *api.Schema) { s.Indexes = s.Indexes[:2] }},
	})
}

func TestRightNames(t *testing.T) {
	long := strings.Repeat("n", api.MaxText)
	for name, want := range map[string]bool{
		"x": true, "_": true, "_1": true, "x1_y": true, "text_": true, "selects": true, "sum": true, "rowid": true, long: true,
		"": false, "X": false, "xY": false, "1": false, "1x": false, "x ": false, " x": false, "x y": false, "x.y": false, "#": false, "#x": false, "x#": false, "'x'": false, "x--": false, "x;": false, "select": false, "unique": false, "int": false, "text": false, "\x00": false, "ä": false, "x\n": false, "\xff": false, long + "n": false,
	} {
		ask(t, []asked{
			{"a table named " + short(name), want, func(s *api.Schema) { s.Tables[1].Name, s.Indexes[3].Table = name, name }},
			{"a table of unique columns named " + short(name), want, func(s *api.Schema) {
				s.Tables[0].Name = name
				for _, at := range []int{0, 1, 2, 4} {
					s.Indexes[at].Table = name
				}
				s.Indexes[0].Name, s.Indexes[1].Name = "#"+name+".a", "#"+name+".c"
			}},
			{"a column named " + short(name), want, func(s *api.Schema) { s.Tables[0].Cols[1].Name = name }},
			{"a unique column named " + short(name), want, func(s *api.Schema) {
				s.Tables[0].Cols[2].Name, s.Indexes[1].Name = name, "#t."+name
			}},
			{"an index named " + short(name), want, func(s *api.Schema) { s.Indexes[2].Name = name }},
		})
	}
	ask(t, []asked{
		{"two tables of one name", false, func(s *api.Schema) { s.Tables[2].Name = "u" }},
		{"two tables of one name that are the same", false, func(s *api.Schema) { s.Tables[2].Name, s.Tables[2].Cols = "u", columns(1) }},
		{"two columns of one name", false, func(s *api.Schema) { s.Tables[2].Cols[1].Name = "w" }},
		{"two columns of one name, one of them unique", false, func(s *api.Schema) { s.Tables[0].Cols[1].Name = "a" }},
		{"two indexes of one name", false, func(s *api.Schema) { s.Indexes[3].Name = "i" }},
		{"two indexes of one name, of one table", false, func(s *api.Schema) { s.Indexes[4].Name = "i" }},
		{"a table and an index of one name", true, func(s *api.Schema) { s.Indexes[2].Name = "t" }},
		{"a table and its column of one name", true, func(s *api.Schema) { s.Tables[1].Cols[0].Name = "u" }},
		{"names of which one begins the other", true, func(s *api.Schema) { s.Tables[2].Name, s.Indexes[4].Name = "uu", "ii" }},
	})
}

// short is a text, or the begin of a long one.
func short(s string) string {
	return s[:min(len(s), 40)]
}

func TestRightUniqueColumns(t *testing.T) {
	index := func(at int, do func(x *api.Index)) func(s *api.Schema) {
		return func(s *api.Schema) { do(&s.Indexes[at]) }
	}
	ask(t, []asked{
		{"without its index", false, func(s *api.Schema) { s.Indexes = s.Indexes[1:] }},
		{"the last one without its index", false, func(s *api.Schema) { s.Indexes = append(s.Indexes[:1], s.Indexes[2:]...) }},
		{"none has its index", false, func(s *api.Schema) { s.Indexes = s.Indexes[2:] }},
		{"its index not unique", false, index(0, func(x *api.Index) { x.Unique = false })},
		{"its index falling", false, index(1, func(x *api.Index) { x.Cols[0].Desc = true })},
		{"its index of another column", false, index(0, func(x *api.Index) { x.Cols[0].Col = 1 })},
		{"its index of another unique column", false, index(0, func(x *api.Index) { x.Cols[0].Col = 2 })},
		{"its index of a column more", false, index(0, func(x *api.Index) { x.Cols = append(x.Cols, api.IndexCol{Col: 1}) })},
		{"its index of a column more ahead", false, index(0, func(x *api.Index) { x.Cols = []api.IndexCol{{Col: 1}, {Col: 0}} })},
		{"its index of no column", false, index(0, func(x *api.Index) { x.Cols = nil })},
		{"its index of another table", false, index(0, func(x *api.Index) { x.Table = "u" })},
		{"its index has another name", false, index(0, func(x *api.Index) { x.Name = "x" })},
		{"its index has great letters", false, index(0, func(x *api.Index) { x.Name = "#t.A" })},
		{"its index has a name of another table", false, index(0, func(x *api.Index) { x.Name = "#u.a" })},
		{"its index has a name without a dot", false, index(0, func(x *api.Index) { x.Name = "#ta" })},
		{"its index has a blank behind", false, index(0, func(x *api.Index) { x.Name = "#t.a " })},
		{"its index has two signs ahead", false, index(0, func(x *api.Index) { x.Name = "##t.a" })},
		{"its index is there twice", false, index(4, func(x *api.Index) { x.Name = "#t.a" })},
		{"two have one another's names", false, func(s *api.Schema) { s.Indexes[0].Name, s.Indexes[1].Name = "#t.c", "#t.a" }},
		{"two stand in another order", true, func(s *api.Schema) { s.Indexes[0], s.Indexes[4] = s.Indexes[4], s.Indexes[0] }},
		{"one is unique no more", false, func(s *api.Schema) { s.Tables[0].Cols[0].Unique = false }},
		{"one is unique no more, and its index gone", true, func(s *api.Schema) { s.Tables[0].Cols[0].Unique, s.Indexes = false, s.Indexes[1:] }},
		{"one is unique no more, and its index has a name", true, func(s *api.Schema) { s.Tables[0].Cols[0].Unique, s.Indexes[0].Name = false, "x" }},
		{"one more, without its index", false, func(s *api.Schema) { s.Tables[0].Cols[1].Unique = true }},
		{"one more, with an index that has a name", false, func(s *api.Schema) { s.Tables[1].Cols[0].Unique, s.Indexes[3].Cols[0].Desc = true, false }},
		{"one more, with its index", true, func(s *api.Schema) {
			s.Tables[1].Cols[0].Unique, s.Indexes[3].Cols[0].Desc, s.Indexes[3].Name = true, false, "#u.a"
		}},
		{"an index of none that is named so", false, index(3, func(x *api.Index) { x.Name, x.Cols[0].Desc = "#u.a", false })},
		{"an index that is named like none", false, index(2, func(x *api.Index) { x.Name = "#x" })},
		{"an index that is named so alone", false, index(2, func(x *api.Index) { x.Name = "#" })},
		{"an index of all columns that is named so", false, index(2, func(x *api.Index) { x.Name = "#t.b" })},
	})
}

// Dots in names must not make one index that of two columns.
func TestRightDots(t *testing.T) {
	s := made(t, "create table t (a unique)", "create table u (a unique)")
	s.Tables[0].Cols[0].Name, s.Indexes[0].Name = "a.b", "#t.a.b"
	is(t, "a dot in a column's name", s, false)
	s.Tables[1].Name, s.Indexes[1].Table, s.Tables[1].Cols[0].Name = "t.a", "t.a", "b"
	s.Indexes = s.Indexes[:1]
	is(t, "one index of two columns", s, false)
}
