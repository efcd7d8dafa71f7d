package model

import (
	"cardindex/api"
)

// changed is a statement under way that changes a table's rows: what it says, of what, and what these come to.
type changed struct {
	api.Res
	schema api.Schema
	data   api.Data
	binds  []api.Value
	at     int // which table it is
	table  sheet
	rows   []api.Row // as they are then
	fresh  []api.Row // which of these are new
	many   int
}

// changing is a statement, or what is wrong ahead of what it says.
func changing(s api.Schema, d api.Data, r api.Res, binds []api.Value) (*changed, api.Errno) {
	if err := refusal(s, d, binds); err != api.OK {
		return nil, err
	}
	switch r.Kind {
	case api.SInsert, api.SUpdate, api.SDelete:
	default:
		return nil, api.ErrTree
	}
	at := placeOf(s, r.Table.Name)
	if at < 0 {
		return nil, api.ErrNone
	}
	return &changed{Res: r, schema: s, data: d, binds: binds, at: at, table: sheetAt(s, d, at)}, api.OK
}

// change does what the statement says, and asks whether the rows may be so.
func (c *changed) change() api.Errno {
	do := c.insert
	switch c.Kind {
	case api.SUpdate:
		do = c.update
	case api.SDelete:
		do = c.remove
	}
	if err := do(); err != api.OK {
		return err
	}
	for _, row := range c.fresh {
		if err := c.table.refusal(row); err != api.OK {
			return err
		}
	}
	if (sheet{c.table.Table, c.table.indexes, c.rows}).doMeet() {
		return api.ErrUnique
	}
	return api.OK
}

// insert has rows more, behind those that there are.
func (c *changed) insert() api.Errno {
	lists, err := c.lists()
	if err != api.OK {
		return err
	}
	last := 0
	if n := len(c.table.rows); n > 0 {
		last = c.table.rows[n-1].Id
	}
	c.rows = c.table.rows[:len(c.table.rows):len(c.table.rows)]
	for _, list := range lists {
		if last == api.MaxId {
			return api.ErrRows
		}
		last++
		row := api.Row{Id: last, Vals: make([]api.Value, len(c.table.Cols))}
		c.give(row, list)
		c.rows = append(c.rows, row)
	}
	c.many = len(lists)
	c.fresh = c.rows[len(c.rows)-c.many:]
	return api.OK
}

// lists is what the columns of new rows are given.
func (c *changed) lists() ([][]api.Value, api.Errno) {
	var told [][]api.Value
	for _, row := range c.Rows {
		list, err := values(row, api.Env{Binds: c.binds})
		if err != api.OK {
			return nil, err
		}
		told = append(told, list)
	}
	for _, q := range c.Query {
		u, err := begun(c.schema, c.data, q, c.binds)
		if err != api.OK {
			return nil, err
		}
		lists, err := u.tells()
		if err != api.OK {
			return nil, err
		}
		told = append(told, lists...)
	}
	return told, api.OK
}

// give gives a row's columns, those that there are, what the statement says for them.
func (c *changed) give(row api.Row, list []api.Value) {
	for i, col := range c.Cols {
		if i < len(list) && col >= 0 && col < len(row.Vals) {
			row.Vals[col] = list[i]
		}
	}
}

// update has others in place of the rows of which Where is true. All are computed of the rows as they were.
func (c *changed) update() api.Errno {
	chosen, err := c.chosen()
	if err != api.OK {
		return err
	}
	for i, row := range c.table.rows {
		if chosen[i] {
			list, err := values(c.Exprs, api.Env{Rows: [][]api.Value{row.Vals}, Binds: c.binds})
			if err != api.OK {
				return err
			}
			row.Vals = append([]api.Value(nil), row.Vals...)
			c.give(row, list)
			c.fresh = append(c.fresh, row)
		}
		c.rows = append(c.rows, row)
	}
	c.many = len(c.fresh)
	return api.OK
}

// remove has those rows no more of which Where is true.
func (c *changed) remove() api.Errno {
	chosen, err := c.chosen()
	if err != api.OK {
		return err
	}
	for i, row := range c.table.rows {
		if !chosen[i] {
			c.rows = append(c.rows, row)
		}
	}
	c.many = len(c.table.rows) - len(c.rows)
	return api.OK
}

// chosen tells of each of the table's rows whether Where is true: the table is the only source.
func (c *changed) chosen() ([]bool, api.Errno) {
	u := underway{Query: api.Query{Where: c.Where}, sources: [][]api.Row{c.table.rows}, binds: c.binds}
	return u.chosen()
}
