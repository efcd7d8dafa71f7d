package catalog

import (
	"slices"
	"testing"

	"cardindex/api"
)

// catalog_test.go: P11.1, what is asked of a schema. (Right has a file of its own.)

// twice is a schema that is not right: names stand in it twice, and are none.
func twice() api.Schema {
	return api.Schema{Version: -3, Next: 0,
		Tables: []api.Table{
			{Name: "t", Cols: []api.Col{{Name: "a"}, {Name: "B"}, {Name: "a", Unique: true}, {Name: ""}}, Tree: 5},
			{Name: "", Tree: 6},
			{Name: "t", Cols: []api.Col{{Name: "z"}}, Tree: 7},
		},
		Indexes: []api.Index{
			{Name: "i", Table: "none", Tree: 8},
			{Name: "#t", Table: "t", Cols: []api.IndexCol{{Col: 9}}, Tree: 9},
			{Name: "i", Table: "t", Cols: []api.IndexCol{{Col: -1}, {Col: -1}}, Tree: 10},
			{Name: "", Table: "", Tree: 11},
			{Name: "k", Table: "none", Unique: true, Tree: 12},
		}}
}

// P11.1: the table of a name, in a right schema and in any other one: the first of that name.
func TestTable(t *testing.T) {
	for _, s := range []api.Schema{{}, full(), twice(), tables(50)} {
		for _, name := range []string{"t", "u", "w", "", "T", "v", "i", "#t.a", "t0", "t49", "t50", "a"} {
			var want api.Table
			at := slices.IndexFunc(s.Tables, func(x api.Table) bool { return x.Name == name })
			if at >= 0 {
				want = s.Tables[at]
			}
			got, ok := Table(s, name)
			if ok != (at >= 0) || !sameTable(got, want) {
				t.Errorf("%q of %d: %+v, %v", name, s.Version, got, ok)
			}
		}
	}
	if got, ok := Table(full(), "u"); !ok || !sameTable(got, api.Table{Name: "u", Cols: []api.Col{{Name: "a"}}, Tree: 4}) {
		t.Errorf("%+v, %v", got, ok)
	}
	if got, ok := Table(twice(), "t"); !ok || got.Tree != 5 || len(got.Cols) != 4 {
		t.Errorf("%+v, %v", got, ok)
	}
	if got, ok := Table(twice(), ""); !ok || got.Tree != 6 {
		t.Errorf("%+v, %v", got, ok)
	}
}

// P11.1: the index of a name, likewise.
func TestIndex(t *testing.T) {
	for _, s := range []api.Schema{{}, full(), twice(), indexes(100)} {
		for _, name := range []string{"i", "j", "k", "#t.a", "#t.c", "#t.b", "#t", "", "I", "t", "none", "i0", "i99", "i100"} {
			var want api.Index
			at := slices.IndexFunc(s.Indexes, func(x api.Index) bool { return x.Name == name })
			if at >= 0 {
				want = s.Indexes[at]
			}
			got, ok := Index(s, name)
			if ok != (at >= 0) || !sameIndex(got, want) {
				t.Errorf("%q of %d: %+v, %v", name, s.Version, got, ok)
			}
		}
	}
	want := api.Index{Name: "#t.c", Table: "t", Cols: []api.IndexCol{{Col: 2}}, Unique: true, Tree: 3}
	if got, ok := Index(full(), "#t.c"); !ok || !sameIndex(got, want) {
		t.Errorf("%+v, %v", got, ok)
	}
	if got, ok := Index(twice(), "i"); !ok || got.Tree != 8 {
		t.Errorf("%+v, %v", got, ok)
	}
}

// P11.1: the indexes of a table, in order, whether it is there or not.
func TestOf(t *testing.T) {
	for _, c := range []struct {
		s     api.Schema
		table string
		trees []int
	}{
		{full(), "t", []int{2, 3, 6, 8}}, {full(), "u", []int{7}}, {full(), "w", nil}, {full(), "T", nil}, {full(), "", nil}, {full(), "i", nil},
		{twice(), "none", []int{8, 12}}, {twice(), "t", []int{9, 10}}, {twice(), "", []int{11}}, {api.Schema{}, "", nil}, {api.Schema{}, "t", nil},
	} {
		var trees []int
		for _, x := range Of(c.s, c.table) {
			trees = append(trees, x.Tree)
			at := slices.IndexFunc(c.s.Indexes, func(y api.Index) bool { return y.Tree == x.Tree })
			if at < 0 || !sameIndex(x, c.s.Indexes[at]) {
				t.Errorf("%q: %+v", c.table, x)
			}
		}
		if !slices.Equal(trees, c.trees) {
			t.Errorf("%q: %v, not %v", c.table, trees, c.trees)
		}
	}
	if got := Of(indexes(100), "t"); len(got) != 100 {
		t.Errorf("%d", len(got))
	}
}

// P11.1: the place of a column: the first of that name; 0 and false of none.
func TestColumn(t *testing.T) {
	for _, c := range []struct {
		t    api.Table
		name string
		at   int
		ok   bool
	}{
		{full().Tables[0], "a", 0, true}, {full().Tables[0], "b", 1, true}, {full().Tables[0], "c", 2, true},
		{full().Tables[0], "d", 0, false}, {full().Tables[0], "A", 0, false}, {full().Tables[0], "", 0, false}, {full().Tables[0], "t", 0, false},
		{twice().Tables[0], "a", 0, true}, {twice().Tables[0], "B", 1, true}, {twice().Tables[0], "", 3, true}, {twice().Tables[0], "b", 0, false},
		{api.Table{}, "a", 0, false}, {api.Table{}, "", 0, false}, {api.Table{Name: "a"}, "a", 0, false},
		{api.Table{Cols: columns(30)}, "c29", 29, true}, {api.Table{Cols: columns(100)}, "c99", 99, true},
	} {
		if at, ok := Column(c.t, c.name); at != c.at || ok != c.ok {
			t.Errorf("%q of %+v: %d, %v", c.name, c.t, at, ok)
		}
	}
}
