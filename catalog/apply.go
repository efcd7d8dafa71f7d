package catalog

import (
	"cardindex/api"
	"cardindex/parse"
)

// refusal is what is wrong with a schema, or a statement, whatever the statement would do.
func refusal(s api.Schema, x api.Stmt) api.Errno {
	switch {
	case !Right(s):
		return api.ErrSchema
	case !makesOrDrops(x.Kind) || !parse.Right(x):
		return api.ErrTree
	case s.Version == most || s.Next+treesMade(x) > most:
		return api.ErrMany
	}
	return api.OK
}

func makesOrDrops(k api.StmtKind) bool {
	switch k {
	case api.STable, api.SIndex, api.SDropT, api.SDropI:
		return true
	}
	return false
}

// treesMade is how many trees a statement makes.
func treesMade(x api.Stmt) int {
	switch x.Kind {
	case api.STable:
		return 1 + uniques(x.Cols)
	case api.SIndex:
		return 1
	}
	return 0
}

// uniques is how many of these columns are unique.
func uniques(cols []api.Col) int {
	return len(only(cols, func(c api.Col) bool { return c.Unique }))
}

// change does to a schema what a statement says. It asks all ahead of changing anything.
func change(s *api.Schema, x api.Stmt) api.Errno {
	switch x.Kind {
	case api.STable:
		return makeTable(s, x)
	case api.SIndex:
		return makeIndex(s, x)
	case api.SDropT:
		return dropTable(s, x.Table)
	}
	return dropIndex(s, x.Name)
}

func makeTable(s *api.Schema, x api.Stmt) api.Errno {
	_, there := place(s.Tables, tableCalled(x.Table))
	switch {
	case there:
		return api.ErrThere
	case !apart(x.Cols, nameOfColumn):
		return api.ErrTwice
	case len(x.Cols) > api.MaxColumns, len(s.Tables) >= api.MaxTables, len(s.Indexes)+uniques(x.Cols) > api.MaxIndexes:
		return api.ErrMany
	}
	s.Tables = append(s.Tables, ownTable(api.Table{Name: x.Table, Cols: x.Cols, Tree: newTree(s)}))
	for i, c := range x.Cols {
		if c.Unique {
			addIndex(s, api.Index{Name: nameOfUnique(x.Table, c.Name), Table: x.Table, Cols: []api.IndexCol{{Col: i}}, Unique: true})
		}
	}
	return api.OK
}

func makeIndex(s *api.Schema, x api.Stmt) api.Errno {
	if _, there := place(s.Indexes, indexCalled(x.Name)); there {
		return api.ErrThere
	}
	at, there := place(s.Tables, tableCalled(x.Table))
	if !there {
		return api.ErrNone
	}
	cols, err := columnsOf(s.Tables[at], x.Keys)
	if err != api.OK {
		return err
	}
	if len(s.Indexes) >= api.MaxIndexes {
		return api.ErrMany
	}
	addIndex(s, api.Index{Name: x.Name, Table: x.Table, Cols: cols, Unique: x.Unique})
	return api.OK
}

// columnsOf is which columns of a table the keys of an index name. Keys are asked one by one, so that the first that is wrong counts.
func columnsOf(t api.Table, keys []api.KeyCol) ([]api.IndexCol, api.Errno) {
	var cols []api.IndexCol
	for _, k := range keys {
		at, there := Column(t, k.Name)
		if !there {
			return nil, api.ErrColumn
		}
		if _, twice := place(cols, func(c api.IndexCol) bool { return c.Col == at }); twice {
			return nil, api.ErrTwice
		}
		cols = append(cols, api.IndexCol{Col: at, Desc: k.Desc})
	}
	return cols, api.OK
}

// addIndex has a schema have an index more, with a new tree.
func addIndex(s *api.Schema, x api.Index) {
	x.Tree = newTree(s)
	s.Indexes = append(s.Indexes, ownIndex(x))
}

// newTree is a number that no tree of a schema has had.
func newTree(s *api.Schema) int {
	s.Next++
	return s.Next - 1
}

func dropTable(s *api.Schema, name string) api.Errno {
	if _, there := place(s.Tables, tableCalled(name)); !there {
		return api.ErrNone
	}
	s.Tables = only(s.Tables, but(tableCalled(name)))
	s.Indexes = only(s.Indexes, but(indexOf(name)))
	return api.OK
}

func dropIndex(s *api.Schema, name string) api.Errno {
	if _, there := place(s.Indexes, indexCalled(name)); !there {
		return api.ErrNone
	}
	s.Indexes = only(s.Indexes, but(indexCalled(name)))
	return api.OK
}
