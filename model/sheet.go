package model

import (
	"slices"

	"cardindex/api"
	"cardindex/catalog"
	"cardindex/record"
)

// sheet is a table, its indexes and its rows.
type sheet struct {
	api.Table
	indexes []api.Index
	rows    []api.Row
}

// sheetAt is the table at a place of a right schema.
func sheetAt(s api.Schema, d api.Data, at int) sheet {
	t := s.Tables[at]
	return sheet{t, catalog.Of(s, t.Name), d.Rows[at]}
}

// isRight: are its rows right?
func (t sheet) isRight() bool {
	last := 0
	for _, row := range t.rows {
		if row.Id <= last || row.Id > api.MaxId || len(row.Vals) != len(t.Cols) || !allRight(row.Vals) || t.refusal(row) != api.OK {
			return false
		}
		last = row.Id
	}
	return !t.doMeet()
}

// refusal is what is wrong with a row that has a right value for each column, by itself.
func (t sheet) refusal(row api.Row) api.Errno {
	for i, c := range t.Cols {
		if c.NotNull && isNull(row.Vals[i]) {
			return api.ErrNull
		}
	}
	if _, err := record.Put(row.Vals); err != api.OK {
		return err
	}
	for _, index := range t.indexes {
		if err := keyRefusal(index, row); err != api.OK {
			return err
		}
	}
	return api.OK
}

// keyRefusal is what is wrong with a row's key of an index.
func keyRefusal(index api.Index, row api.Row) api.Errno {
	var desc []bool
	for _, c := range index.Cols {
		desc = append(desc, c.Desc)
	}
	id := api.Value{Kind: api.VInt, N: int64(row.Id)}
	_, err := record.Key(append(columnsOf(index, row), id), append(desc, false))
	return err
}

// columnsOf is the values that a row has in an index's columns.
func columnsOf(index api.Index, row api.Row) []api.Value {
	var told []api.Value
	for _, c := range index.Cols {
		told = append(told, row.Vals[c.Col])
	}
	return told
}

// doMeet: do two of the rows meet in a unique index?
func (t sheet) doMeet() bool {
	return slices.ContainsFunc(t.indexes, func(index api.Index) bool { return index.Unique && t.doMeetIn(index) })
}

func (t sheet) doMeetIn(index api.Index) bool {
	met := newBag()
	for _, row := range t.rows {
		key := columnsOf(index, row)
		if !slices.ContainsFunc(key, isNull) && met.put(key) > 0 {
			return true
		}
	}
	return false
}

func isNull(v api.Value) bool {
	return v.Kind == api.VNull
}
