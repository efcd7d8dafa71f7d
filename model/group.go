package model

import (
	"cardindex/agg"
	"cardindex/api"
)

// total is a total of a group. Its error counts not until it is asked what it comes to.
type total struct {
	*agg.Acc
	err api.Errno
}

// newTotal is a total that a query says; one of nothing counts rows.
func newTotal(t api.Total) *total {
	name := t.Func
	if len(t.Args) == 0 {
		name = "count*"
	}
	acc, err := agg.New(name, t.Distinct)
	return &total{acc, err}
}

// hand hands it what its Arg is of one more row.
func (t *total) hand(v api.Value) {
	if t.err == api.OK {
		t.err = t.Step(v)
	}
}

// comesTo is what it comes to.
func (t *total) comesTo() (api.Value, api.Errno) {
	if t.err != api.OK {
		return api.Value{}, t.err
	}
	return t.Final()
}

// group is rows with the same values of what is grouped by.
type group struct {
	keys   []api.Value
	totals []*total
}

// newGroup is one without rows.
func (u *underway) newGroup(keys []api.Value) *group {
	g := &group{keys: keys}
	for _, t := range u.Totals {
		g.totals = append(g.totals, newTotal(t))
	}
	return g
}

// grouped is what is told of each group.
func (u *underway) grouped() ([]line, api.Errno) {
	groups, err := u.groups()
	if err != api.OK {
		return nil, err
	}
	var told []line
	for _, g := range groups {
		x, err := u.of(g)
		if err != api.OK {
			return nil, err
		}
		yes, err := allTrue(u.Having, x)
		if err != api.OK {
			return nil, err
		}
		if !yes {
			continue
		}
		l, err := u.line(x)
		if err != api.OK {
			return nil, err
		}
		told = append(told, l)
	}
	return told, api.OK
}

// groups is the groups in the order of their first rows.
func (u *underway) groups() ([]*group, api.Errno) {
	lists, known := places{}, map[int]*group{}
	var told []*group
	at := func(keys []api.Value) *group {
		place := lists.of(keys)
		if known[place] == nil {
			known[place] = u.newGroup(keys)
			told = append(told, known[place])
		}
		return known[place]
	}
	if len(u.Group) == 0 { // all rows are one, be there none
		at(nil)
	}
	args := u.args()
	err := u.rows(func(x api.Env) api.Errno {
		keys, err := values(u.Group, x)
		if err != api.OK {
			return err
		}
		handed, err := values(args, x)
		if err != api.OK {
			return err
		}
		for i, t := range at(keys).totals {
			t.hand(handed[i])
		}
		return api.OK
	})
	return told, err
}

// args is what each total is handed of a row: the first of its Args; whatever, if it counts rows.
func (u *underway) args() []api.Expr {
	var told []api.Expr
	for _, t := range u.Totals {
		arg := api.Expr{Kind: api.ENull}
		if len(t.Args) > 0 {
			arg = t.Args[0]
		}
		told = append(told, arg)
	}
	return told
}

// of is what a group's expressions are computed of.
func (u *underway) of(g *group) (api.Env, api.Errno) {
	x := api.Env{Keys: g.keys, Binds: u.binds}
	for _, t := range g.totals {
		v, err := t.comesTo()
		if err != api.OK {
			return api.Env{}, err
		}
		x.Totals = append(x.Totals, v)
	}
	return x, api.OK
}
