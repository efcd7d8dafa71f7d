package model

import (
	"slices"

	"cardindex/api"
	"cardindex/value"
)

// line is what is told once: the items, and what they are sorted by.
type line struct {
	items, sort []api.Value
}

// tells is the items that a query tells.
func (u *underway) tells() ([][]api.Value, api.Errno) {
	all, err := u.all()
	if err != api.OK {
		return nil, err
	}
	from, to := u.part(len(all))
	var told [][]api.Value
	for _, l := range all[from:to] {
		told = append(told, l.items)
	}
	return told, api.OK
}

// all is what a query tells, in its order, as if it had no Limit and Offset.
func (u *underway) all() ([]line, api.Errno) {
	lines := u.plain
	if u.Grouped {
		lines = u.grouped
	}
	all, err := lines()
	if err != api.OK {
		return nil, err
	}
	if u.Distinct {
		all = once(all)
	}
	slices.SortStableFunc(all, u.compare)
	return all, api.OK
}

// plain is what is told of each row.
func (u *underway) plain() ([]line, api.Errno) {
	var told []line
	err := u.rows(func(x api.Env) api.Errno {
		l, err := u.line(x)
		told = append(told, l)
		return err
	})
	return told, err
}

// line is what is told of a row, or of a group.
func (u *underway) line(x api.Env) (line, api.Errno) {
	items, err := values(u.Items, x)
	if err != api.OK {
		return line{}, err
	}
	var keys []api.Expr
	for _, k := range u.Order {
		keys = append(keys, k.Expr)
	}
	sort, err := values(keys, x)
	return line{items, sort}, err
}

// once is these lines without those whose items stand in one ahead.
func once(all []line) []line {
	had := newBag()
	return slices.DeleteFunc(all, func(l line) bool { return had.put(l.items) > 0 })
}

// compare tells which of two lines is ahead by what they are sorted by.
func (u *underway) compare(a, b line) int {
	for i, k := range u.Order {
		order := value.Compare(a.sort[i], b.sort[i])
		switch {
		case order != 0 && k.Desc:
			return -order
		case order != 0:
			return order
		}
	}
	return 0
}
