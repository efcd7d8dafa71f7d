package model

import (
	"strings"

	"cardindex/api"
)

// own is all rows, in memory of their own.
func own(d api.Data) api.Data {
	var told api.Data
	for _, rows := range d.Rows {
		told.Rows = append(told.Rows, ownRows(rows))
	}
	return told
}

func ownRows(rows []api.Row) []api.Row {
	var told []api.Row
	for _, row := range rows {
		told = append(told, api.Row{Id: row.Id, Vals: ownValues(row.Vals)})
	}
	return told
}

func ownValues(list []api.Value) []api.Value {
	var told []api.Value
	for _, v := range list {
		v.S = strings.Clone(v.S)
		told = append(told, v)
	}
	return told
}
