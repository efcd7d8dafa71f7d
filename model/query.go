package model

import (
	"slices"

	"cardindex/api"
	"cardindex/eval"
)

// underway is a query under way: what it says, and what that comes to ahead of its candidates.
type underway struct {
	api.Query
	sources [][]api.Row
	binds   []api.Value
	most    int64 // below 0: all
	left    int64 // how many are left out at the begin
}

// begun is a query of right rows and binds, or what is wrong with it ahead of its candidates.
func begun(s api.Schema, d api.Data, q api.Query, binds []api.Value) (*underway, api.Errno) {
	u := &underway{Query: q, binds: binds}
	for _, t := range q.From {
		at := placeOf(s, t.Name)
		if at < 0 {
			return nil, api.ErrNone
		}
		u.sources = append(u.sources, d.Rows[at])
	}
	if u.howMany() > api.MaxOf {
		return nil, api.ErrRows
	}
	var err api.Errno
	if u.most, err = u.number(q.Limit, -1); err != api.OK {
		return nil, err
	}
	if u.left, err = u.number(q.Offset, 0); err != api.OK {
		return nil, err
	}
	return u, api.OK
}

// howMany is how many candidates there are; beyond MaxOf not just how many.
func (u *underway) howMany() int {
	if slices.ContainsFunc(u.sources, func(rows []api.Row) bool { return len(rows) == 0 }) {
		return 0
	}
	many := 1
	for _, rows := range u.sources {
		many *= len(rows)
		if many > api.MaxOf { // no more of it: it might get greater than an int
			break
		}
	}
	return many
}

// number is what the last of a list tells, which is a number; with nothing in the list another one.
func (u *underway) number(list []api.Expr, none int64) (int64, api.Errno) {
	if len(list) == 0 {
		return none, api.OK
	}
	v, err := eval.Eval(list[len(list)-1], api.Env{Binds: u.binds})
	if err != api.OK {
		return 0, err
	}
	if v.Kind != api.VInt {
		return 0, api.ErrLimit
	}
	return v.N, api.OK
}

// part is from where to where the lines stand that are told, of so many.
func (u *underway) part(many int) (from, to int) {
	from, to = int(min(max(u.left, 0), int64(many))), many
	if u.most >= 0 {
		to = from + int(min(u.most, int64(many-from)))
	}
	return from, to
}

// candidates hands tell all candidates, up to the first error of its. What it is handed is good for that call alone.
func (u *underway) candidates(tell func(x api.Env) api.Errno) api.Errno {
	if u.howMany() == 0 { // else all rows of the outer sources would be put together for nothing
		return api.OK
	}
	x := api.Env{Rows: make([][]api.Value, len(u.sources)), Binds: u.binds}
	var from func(source int) api.Errno
	from = func(source int) api.Errno {
		if source == len(u.sources) {
			return tell(x)
		}
		for _, row := range u.sources[source] {
			x.Rows[source] = row.Vals
			if err := from(source + 1); err != api.OK {
				return err
			}
		}
		return api.OK
	}
	return from(0)
}

// chosen tells of each candidate whether it is a row.
func (u *underway) chosen() ([]bool, api.Errno) {
	var told []bool
	err := u.candidates(func(x api.Env) api.Errno {
		yes, err := allTrue(u.Where, x)
		told = append(told, yes)
		return err
	})
	return told, err
}

// rows hands tell all rows, up to the first error of its. Where is asked of all candidates ahead of that: its errors come first.
func (u *underway) rows(tell func(x api.Env) api.Errno) api.Errno {
	chosen, err := u.chosen()
	if err != api.OK {
		return err
	}
	return u.candidates(func(x api.Env) api.Errno {
		is := chosen[0]
		chosen = chosen[1:]
		if !is {
			return api.OK
		}
		return tell(x)
	})
}

// allTrue: are all of these true? Each is asked, also behind one that is not.
func allTrue(list []api.Expr, x api.Env) (bool, api.Errno) {
	told := true
	for _, e := range list {
		yes, err := eval.True(e, x)
		if err != api.OK {
			return false, err
		}
		told = told && yes
	}
	return told, api.OK
}

// values is the values of expressions, up to the first error.
func values(list []api.Expr, x api.Env) ([]api.Value, api.Errno) {
	var told []api.Value
	for _, e := range list {
		v, err := eval.Eval(e, x)
		if err != api.OK {
			return nil, err
		}
		told = append(told, v)
	}
	return told, api.OK
}
