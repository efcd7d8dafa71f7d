package catalog

import (
	"strings"

	"cardindex/api"
)

// own.go: copies that share no memory with what they are copies of.

func ownSchema(s api.Schema) api.Schema {
	s.Tables = each(s.Tables, ownTable)
	s.Indexes = each(s.Indexes, ownIndex)
	return s
}

func ownTable(t api.Table) api.Table {
	t.Name = strings.Clone(t.Name)
	t.Cols = each(t.Cols, ownColumn)
	return t
}

func ownColumn(c api.Col) api.Col {
	c.Name = strings.Clone(c.Name)
	return c
}

func ownIndex(x api.Index) api.Index {
	x.Name = strings.Clone(x.Name)
	x.Table = strings.Clone(x.Table)
	x.Cols = each(x.Cols, func(c api.IndexCol) api.IndexCol { return c })
	return x
}
