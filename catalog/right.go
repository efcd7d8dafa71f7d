package catalog

import (
	"cardindex/api"
	"cardindex/parse"
)

// most is how great a schema's Version and Next may be.
const most = 1 << 40

func counts(n int) bool {
	return 1 <= n && n <= most
}

// isTable: may there be such a table? (Its names are names if a statement could say them.)
func isTable(t api.Table) bool {
	return len(t.Cols) <= api.MaxColumns && apart(t.Cols, nameOfColumn) &&
		parse.Right(api.Stmt{Kind: api.STable, Table: t.Name, Cols: t.Cols})
}

// isIndex tells which indexes there may be beside a schema's tables.
func isIndex(s api.Schema) func(x api.Index) bool {
	return func(x api.Index) bool {
		at, there := place(s.Tables, tableCalled(x.Table))
		return there && hasColumnsOf(s.Tables[at], x) && (isName(x.Name) || isOfUnique(s.Tables[at], x))
	}
}

// hasColumnsOf: are an index's columns some of a table's?
func hasColumnsOf(t api.Table, x api.Index) bool {
	return 1 <= len(x.Cols) && len(x.Cols) <= len(t.Cols) && apart(x.Cols, columnOf) &&
		all(x.Cols, func(c api.IndexCol) bool { return 0 <= c.Col && c.Col < len(t.Cols) })
}

func isName(s string) bool {
	return parse.Right(api.Stmt{Kind: api.SDropI, Name: s})
}

// isOfUnique: is x the index of a unique column of its table t?
func isOfUnique(t api.Table, x api.Index) bool {
	c := t.Cols[x.Cols[0].Col]
	return c.Unique && x.Name == nameOfUnique(t.Name, c.Name) &&
		x.Unique && len(x.Cols) == 1 && !x.Cols[0].Desc
}

// nameOfUnique is the name of a unique column's index.
func nameOfUnique(table, column string) string {
	return "#" + table + "." + column
}

// areTrees: are the numbers of all trees given out already, and each once alone?
func areTrees(s api.Schema) bool {
	var trees []int
	for _, t := range s.Tables {
		trees = append(trees, t.Tree)
	}
	for _, x := range s.Indexes {
		trees = append(trees, x.Tree)
	}
	return all(trees, func(n int) bool { return 1 <= n && n < s.Next }) &&
		apart(trees, func(n int) int { return n })
}

// hasItsIndexes tells which tables have an index for each unique column. (That it is as it should be isIndex tells: no other column's has that name, as there is no dot in a name.)
func hasItsIndexes(s api.Schema) func(t api.Table) bool {
	return func(t api.Table) bool {
		return all(t.Cols, func(c api.Col) bool {
			_, there := place(s.Indexes, indexCalled(nameOfUnique(t.Name, c.Name)))
			return there || !c.Unique
		})
	}
}
