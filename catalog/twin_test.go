package catalog

import (
	"maps"
	"regexp"
	"slices"
	"strings"

	"cardindex/api"
	"cardindex/parse"
)

// twin_test.go: what the chapter says, said in another way: all that is wrong with a schema; and schemas as what stands in each tree.

const keys = " and as asc begin between by cast commit create delete desc distinct drop from group having in index insert int into is join like limit not null offset on or order rollback select set table text unique update values where "

var nameForm = regexp.MustCompile(`\A[a-z_][a-z0-9_]*\z`)

func twinName(s string) bool {
	return len(s) <= 65536 && nameForm.MatchString(s) && !strings.Contains(keys, " "+s+" ")
}

// faults is all that is wrong with a schema.
func faults(s api.Schema) []string {
	var told []string
	must := func(right bool, what string) {
		if !right {
			told = append(told, what)
		}
	}
	must(s.Version >= 1 && s.Version <= 1099511627776, "Version")
	must(s.Next >= 1 && s.Next <= 1099511627776, "Next")
	must(len(s.Tables) <= 50, "so many tables")
	must(len(s.Indexes) <= 100, "so many indexes")
	if len(told) > 0 {
		return told
	}
	trees := map[int]int{}
	named := map[string]int{}
	unique := map[string]api.Index{}
	cols := map[string][]api.Col{}
	for _, t := range s.Tables {
		trees[t.Tree]++
		named[t.Name]++
		cols[t.Name] = t.Cols
		must(twinName(t.Name), "a table's name")
		must(len(t.Cols) > 0 && len(t.Cols) < 31, "so many columns")
		of := map[string]int{}
		for i, c := range t.Cols {
			of[c.Name]++
			must(twinName(c.Name), "a column's name")
			if c.Unique {
				unique["#"+t.Name+"."+c.Name] = api.Index{Table: t.Name, Cols: []api.IndexCol{{Col: i}}, Unique: true}
			}
		}
		must(len(of) == len(t.Cols), "columns of one name")
	}
	must(len(named) == len(s.Tables), "tables of one name")
	clear(named)
	for _, x := range s.Indexes {
		trees[x.Tree]++
		named[x.Name]++
		of, there := cols[x.Table]
		must(there, "an index of no table")
		if !there {
			continue
		}
		must(len(x.Cols) > 0 && len(x.Cols) <= len(of), "an index of so many columns")
		places := map[int]int{}
		for _, c := range x.Cols {
			places[c.Col]++
			must(c.Col > -1 && c.Col < len(of), "an index of no column")
		}
		must(len(places) == len(x.Cols), "an index of a column twice")
		want, isUnique := unique[x.Name]
		want.Name, want.Tree = x.Name, x.Tree
		must(twinName(x.Name) || isUnique, "an index's name")
		must(!isUnique || sameIndex(x, want), "a unique column's index")
	}
	must(len(named) == len(s.Indexes), "indexes of one name")
	for name := range unique {
		must(named[name] == 1, "no index of a unique column")
	}
	must(len(trees) == len(s.Tables)+len(s.Indexes), "a tree twice")
	for n := range trees {
		must(n > 0 && n < s.Next, "a tree's number")
	}
	return told
}

// thing is what a tree has: a table, or else an index.
type thing struct {
	table *api.Table
	index *api.Index
}

// twin is a schema as what each tree has. As numbers of trees rise, they tell the order in which things were made.
type twin struct {
	version, next int
	things        map[int]thing
	made          map[int]string // the names of all that ever stood in a tree
}

func newTwin(version, next int) *twin {
	return &twin{version: version, next: next, things: map[int]thing{}, made: map[int]string{}}
}

// schema is what the twin comes to.
func (w *twin) schema() api.Schema {
	s := api.Schema{Version: w.version, Next: w.next}
	for _, n := range slices.Sorted(maps.Keys(w.things)) {
		if t := w.things[n].table; t != nil {
			s.Tables = append(s.Tables, *t)
		} else {
			s.Indexes = append(s.Indexes, *w.things[n].index)
		}
	}
	return copied(s)
}

// table is the table of a name, or nil; index is the index.
func (w *twin) table(name string) *api.Table {
	for _, x := range w.things {
		if x.table != nil && x.table.Name == name {
			return x.table
		}
	}
	return nil
}

func (w *twin) index(name string) *api.Index {
	for _, x := range w.things {
		if x.index != nil && x.index.Name == name {
			return x.index
		}
	}
	return nil
}

// counts is how many tables, and how many indexes there are.
func (w *twin) counts() (int, int) {
	tables := 0
	for _, x := range w.things {
		if x.table != nil {
			tables++
		}
	}
	return tables, len(w.things) - tables
}

// put has a new tree have something.
func (w *twin) put(x thing) {
	if x.table != nil {
		x.table.Tree = w.next
		w.made[w.next] = x.table.Name
	} else {
		x.index.Tree = w.next
		w.made[w.next] = x.index.Name
	}
	w.things[w.next] = x
	w.next++
}

// apply does what a statement says, or tells why not.
func (w *twin) apply(x api.Stmt) api.Errno {
	if !parse.Right(x) || !slices.Contains([]api.StmtKind{api.STable, api.SIndex, api.SDropT, api.SDropI}, x.Kind) {
		return api.ErrTree
	}
	var new []thing
	if x.Kind == api.STable {
		new = append(new, thing{table: &api.Table{Name: x.Table, Cols: slices.Clone(x.Cols)}})
		for i, c := range x.Cols {
			if c.Unique {
				new = append(new, thing{index: &api.Index{Name: "#" + x.Table + "." + c.Name, Table: x.Table, Cols: []api.IndexCol{{Col: i}}, Unique: true}})
			}
		}
	}
	if x.Kind == api.SIndex {
		new = append(new, thing{index: &api.Index{Name: x.Name, Table: x.Table, Unique: x.Unique}})
	}
	if w.version >= 1<<40 || w.next > 1<<40-len(new) {
		return api.ErrMany
	}
	err := w.wrong(x, new)
	if err != api.OK {
		return err
	}
	for _, n := range new {
		w.put(n)
	}
	if x.Kind == api.SDropT {
		maps.DeleteFunc(w.things, func(n int, y thing) bool {
			return y.table != nil && y.table.Name == x.Table || y.index != nil && y.index.Table == x.Table
		})
	}
	if x.Kind == api.SDropI {
		delete(w.things, w.index(x.Name).Tree)
	}
	w.version++
	return api.OK
}

// wrong is why what a statement says may not be; of an index to be it puts the columns.
func (w *twin) wrong(x api.Stmt, new []thing) api.Errno {
	tables, indexes := w.counts()
	switch x.Kind {
	case api.SDropT:
		if w.table(x.Table) == nil {
			return api.ErrNone
		}
	case api.SDropI:
		if w.index(x.Name) == nil {
			return api.ErrNone
		}
	case api.STable:
		of := map[string]bool{}
		for _, c := range x.Cols {
			of[c.Name] = true
		}
		switch {
		case w.table(x.Table) != nil:
			return api.ErrThere
		case len(of) < len(x.Cols):
			return api.ErrTwice
		case len(x.Cols) > 30 || tables+1 > 50 || indexes+len(new)-1 > 100:
			return api.ErrMany
		}
	case api.SIndex:
		t := w.table(x.Table)
		switch {
		case w.index(x.Name) != nil:
			return api.ErrThere
		case t == nil:
			return api.ErrNone
		}
		for i, k := range x.Keys {
			at := slices.IndexFunc(t.Cols, func(c api.Col) bool { return c.Name == k.Name })
			if at == -1 {
				return api.ErrColumn
			}
			if slices.ContainsFunc(x.Keys[:i], func(y api.KeyCol) bool { return y.Name == k.Name }) {
				return api.ErrTwice
			}
			new[0].index.Cols = append(new[0].index.Cols, api.IndexCol{Col: at, Desc: k.Desc})
		}
		if indexes+1 > 100 {
			return api.ErrMany
		}
	}
	return api.OK
}
