package catalog

import (
	"slices"
	"strconv"
	"strings"
	"testing"

	"cardindex/api"
	"cardindex/parse"
)

// some_test.go: what the tests are made of.

// said is the statement that a text says.
func said(text string) api.Stmt {
	x, f := parse.Parse(text)
	if f != (api.Fault{}) {
		panic(text)
	}
	return x
}

// begun is a schema of nothing.
func begun() api.Schema {
	return api.Schema{Version: 1, Next: 1}
}

// then is what a schema comes to by statements, one behind the other.
func then(t *testing.T, s api.Schema, texts ...string) api.Schema {
	t.Helper()
	for _, text := range texts {
		told, err := Apply(s, said(text))
		if err != api.OK {
			t.Fatalf("%s: error %d", text, err)
		}
		s = told
	}
	return s
}

// made is the schema that statements make.
func made(t *testing.T, texts ...string) api.Schema {
	t.Helper()
	return then(t, begun(), texts...)
}

// does asks what a schema comes to by a statement.
func does(t *testing.T, s api.Schema, text string, want api.Schema) {
	t.Helper()
	got, err := Apply(s, said(text))
	if err != api.OK || !same(got, want) {
		t.Errorf("%s: %+v, error %d, not %+v", text, got, err, want)
	}
}

// refuses asks for the error of a statement, and whether the schema beside it is as it was.
func refuses(t *testing.T, s api.Schema, x api.Stmt, want api.Errno) {
	t.Helper()
	was := copied(s)
	got, err := Apply(s, x)
	if err != want || !same(got, was) || !same(s, was) {
		t.Errorf("%+v: error %d, not %d; %+v", x, err, want, got)
	}
}

// full is a schema that has something of all there is: t (trees 1 to 3), u (4), w (5), the indexes i, j, k (6 to 8).
func full() api.Schema {
	return api.Schema{Version: 7, Next: 9,
		Tables: []api.Table{
			{Name: "t", Cols: []api.Col{{Name: "a", Unique: true}, {Name: "b", NotNull: true}, {Name: "c", NotNull: true, Unique: true}}, Tree: 1},
			{Name: "u", Cols: []api.Col{{Name: "a"}}, Tree: 4},
			{Name: "w", Cols: []api.Col{{Name: "w"}, {Name: "x"}}, Tree: 5},
		},
		Indexes: []api.Index{
			{Name: "#t.a", Table: "t", Cols: []api.IndexCol{{Col: 0}}, Unique: true, Tree: 2},
			{Name: "#t.c", Table: "t", Cols: []api.IndexCol{{Col: 2}}, Unique: true, Tree: 3},
			{Name: "i", Table: "t", Cols: []api.IndexCol{{Col: 2, Desc: true}, {Col: 0}, {Col: 1}}, Tree: 6},
			{Name: "j", Table: "u", Cols: []api.IndexCol{{Col: 0, Desc: true}}, Unique: true, Tree: 7},
			{Name: "k", Table: "t", Cols: []api.IndexCol{{Col: 0}}, Unique: true, Tree: 8},
		}}
}

// copied is a schema in memory of its own.
func copied(s api.Schema) api.Schema {
	s.Tables = slices.Clone(s.Tables)
	for i, t := range s.Tables {
		s.Tables[i].Name, s.Tables[i].Cols = strings.Clone(t.Name), slices.Clone(t.Cols)
		for k, c := range t.Cols {
			s.Tables[i].Cols[k].Name = strings.Clone(c.Name)
		}
	}
	s.Indexes = slices.Clone(s.Indexes)
	for i, x := range s.Indexes {
		s.Indexes[i].Name, s.Indexes[i].Table, s.Indexes[i].Cols = strings.Clone(x.Name), strings.Clone(x.Table), slices.Clone(x.Cols)
	}
	return s
}

// same: are two schemas the same? (R6: an empty list and none are.)
func same(s, other api.Schema) bool {
	return s.Version == other.Version && s.Next == other.Next &&
		slices.EqualFunc(s.Tables, other.Tables, sameTable) && slices.EqualFunc(s.Indexes, other.Indexes, sameIndex)
}

func sameTable(t, other api.Table) bool {
	return t.Name == other.Name && t.Tree == other.Tree && slices.Equal(t.Cols, other.Cols)
}

func sameIndex(x, other api.Index) bool {
	return x.Name == other.Name && x.Table == other.Table && x.Unique == other.Unique && x.Tree == other.Tree && slices.Equal(x.Cols, other.Cols)
}

// tables is so many tables of one column each, of trees from 1 on.
func tables(n int) api.Schema {
	s := api.Schema{Version: 1, Next: n + 1}
	for i := range n {
		s.Tables = append(s.Tables, api.Table{Name: numbered("t", i), Cols: columns(1), Tree: i + 1})
	}
	return s
}

// indexes is a table t of two columns with so many indexes.
func indexes(n int) api.Schema {
	s := api.Schema{Version: 1, Next: n + 2, Tables: []api.Table{{Name: "t", Cols: columns(2), Tree: 1}}}
	for i := range n {
		s.Indexes = append(s.Indexes, api.Index{Name: numbered("i", i), Table: "t", Cols: []api.IndexCol{{Col: i % 2}}, Tree: i + 2})
	}
	return s
}

// columns is so many columns.
func columns(n int) []api.Col {
	var told []api.Col
	for i := range n {
		told = append(told, api.Col{Name: numbered("c", i)})
	}
	return told
}

// uniqueColumns is so many columns, all of them unique.
func uniqueColumns(n int) []api.Col {
	told := columns(n)
	for i := range told {
		told[i].Unique = true
	}
	return told
}

func numbered(name string, n int) string {
	return name + strconv.Itoa(n)
}

// newTable is the statement that makes a table of these columns.
func newTable(name string, cols ...api.Col) api.Stmt {
	return api.Stmt{Kind: api.STable, Table: name, Cols: cols}
}

// newIndex is the statement that makes an index of these columns, all rising.
func newIndex(name, table string, cols ...string) api.Stmt {
	x := api.Stmt{Kind: api.SIndex, Name: name, Table: table}
	for _, c := range cols {
		x.Keys = append(x.Keys, api.KeyCol{Name: c})
	}
	return x
}

// chance is a row of numbers that is always the same one.
type chance uint64

func newChance(seed uint64) *chance {
	c := chance(seed*2862933555777941757 + 3037000493)
	return &c
}

// below is a number from 0 up to n, n not among them.
func (c *chance) below(n int) int {
	*c = *c*6364136223846793005 + 1442695040888963407
	return int(uint64(*c)>>33) % n
}

func (c *chance) is() bool {
	return c.below(2) == 0
}

// of is one of a list.
func of[T any](c *chance, list ...T) T {
	return list[c.below(len(list))]
}
