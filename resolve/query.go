package resolve

import (
	"slices"
	"strings"

	"cardindex/api"
	"cardindex/catalog"
)

// query is a query under way: the scope of all its sources, what it came to so far, and what each of its items is called by an as.
type query struct {
	scope
	told api.Query
	as   []string
}

// resolved is a query of a schema with places where it has names.
func resolved(s api.Schema, x api.Select) (api.Query, api.Errno) {
	q := &query{told: api.Query{Distinct: x.Distinct}}
	if err := q.from(s, x.From); err != api.OK {
		return api.Query{}, err
	}
	for _, step := range []func(api.Select) api.Errno{q.where, q.group, q.items, q.having, q.order, q.limit} {
		if err := step(x); err != api.OK {
			return api.Query{}, err
		}
	}
	return q.told, api.OK
}

// from finds the sources.
func (q *query) from(s api.Schema, from []api.Source) api.Errno {
	for _, f := range from {
		t, there := catalog.Table(s, f.Table)
		if !there {
			return api.ErrNone
		}
		called := f.As
		if called == "" {
			called = f.Table
		}
		if len(q.named(called)) > 0 {
			return api.ErrTwice
		}
		q.sources = append(q.sources, source{called, t})
		q.told.From = append(q.told.From, t)
	}
	if len(from) > api.MaxSources {
		return api.ErrMany
	}
	return api.OK
}

// where puts all conditions together. One of a join sees the sources up to its own alone.
func (q *query) where(x api.Select) api.Errno {
	var all []api.Expr
	for i, f := range x.From {
		on, err := each(f.On, scope{q.sources[:i+1]}.resolver(noTotal))
		if err != api.OK {
			return err
		}
		all = append(all, on...)
	}
	where, err := each(x.Where, q.resolver(noTotal))
	q.told.Where = together(append(all, where...))
	return err
}

// together is all of these conditions as one, or none.
func together(all []api.Expr) []api.Expr {
	if len(all) < 2 {
		return all
	}
	told := all[0]
	for _, e := range all[1:] {
		told = api.Expr{Kind: api.EOp, S: "and", Kids: []api.Expr{told, e}}
	}
	return []api.Expr{told}
}

// group resolves what is grouped by. Whether the query is grouped has to be known ahead of its items.
func (q *query) group(x api.Select) (err api.Errno) {
	q.told.Group, err = each(x.Group, q.resolver(noTotal))
	q.told.Grouped = len(x.Group) > 0 || howMany(itemsOf(x), isTotal)+howMany(orderOf(x), isTotal) > 0
	return err
}

func (q *query) items(x api.Select) api.Errno {
	for _, item := range x.Items {
		all, err := q.spread(item)
		if err != api.OK {
			return err
		}
		for _, one := range all {
			if err := q.item(one); err != api.OK {
				return err
			}
		}
	}
	return api.OK
}

// spread is the items that one says: a star says each column of its sources.
func (q *query) spread(x api.Item) ([]api.Item, api.Errno) {
	if x.Expr.Kind != api.EStar {
		return []api.Item{x}, api.OK
	}
	among := q.named(x.Expr.T)
	if len(among) == 0 {
		return nil, api.ErrNone
	}
	var told []api.Item
	for _, at := range among {
		for _, c := range q.sources[at].table.Cols {
			told = append(told, api.Item{Expr: api.Expr{Kind: api.EName, T: q.sources[at].called, S: c.Name}})
		}
	}
	return told, api.OK
}

// item resolves one that is no star.
func (q *query) item(x api.Item) api.Errno {
	e, err := q.expr(x.Expr)
	if err != api.OK {
		return err
	}
	name := x.As
	if name == "" && x.Expr.Kind == api.EName {
		name = x.Expr.S
	}
	q.told.Items = append(q.told.Items, e)
	q.told.Names = append(q.told.Names, strings.Clone(name))
	q.as = append(q.as, x.As)
	return api.OK
}

func (q *query) having(x api.Select) (err api.Errno) {
	q.told.Having, err = each(x.Having, q.expr)
	return err
}

func (q *query) order(x api.Select) (err api.Errno) {
	q.told.Order, err = each(x.Order, q.key)
	return err
}

// key resolves what is sorted by. Rows that are told once alone have nothing to be sorted by but what is told.
func (q *query) key(k api.Key) (api.Key, api.Errno) {
	e, err := q.sorted(k.Expr)
	switch {
	case err != api.OK:
		return api.Key{}, err
	case q.told.Distinct && !slices.ContainsFunc(q.told.Items, same(e)):
		return api.Key{}, api.ErrPlain
	}
	return api.Key{Expr: e, Desc: k.Desc}, api.OK
}

// sorted is what a key is sorted by: a name may be what an item is called.
func (q *query) sorted(e api.Expr) (api.Expr, api.Errno) {
	if e.Kind == api.EName && e.T == "" {
		if at := slices.Index(q.as, e.S); at >= 0 {
			return again(q.told.Items[at]), api.OK
		}
	}
	return q.expr(e)
}

func (q *query) limit(x api.Select) (err api.Errno) {
	if q.told.Limit, err = each(x.Limit, scope{}.resolver(noTotal)); err != api.OK {
		return err
	}
	q.told.Offset, err = each(x.Offset, scope{}.resolver(noTotal))
	return err
}

// expr resolves an expression where totals may be.
func (q *query) expr(e api.Expr) (api.Expr, api.Errno) {
	e, err := q.resolver(q.total)(e)
	if err != api.OK || !q.told.Grouped {
		return e, err
	}
	return q.keyed(e)
}

// total is the place of a total among the query's.
func (q *query) total(e api.Expr) (api.Expr, api.Errno) {
	args, err := each(e.Kids, q.resolver(noTotal))
	if err != api.OK {
		return api.Expr{}, err
	}
	t := api.Total{Func: strings.Clone(e.S), Distinct: e.N == 1, Args: args}
	at := slices.IndexFunc(q.told.Totals, sameTotal(t))
	if at < 0 {
		at = len(q.told.Totals)
		q.told.Totals = append(q.told.Totals, t)
	}
	return api.Expr{Kind: api.ETotal, N: int64(at)}, api.OK
}

// keyed is an expression of a group: what is grouped by is a key, and no column may be left.
func (q *query) keyed(e api.Expr) (api.Expr, api.Errno) {
	if k := slices.IndexFunc(q.told.Group, same(e)); k >= 0 {
		return api.Expr{Kind: api.EKey, N: int64(k)}, api.OK
	}
	if e.Kind == api.EThis {
		return api.Expr{}, api.ErrPlain
	}
	kids, err := each(e.Kids, q.keyed)
	if err != api.OK {
		return api.Expr{}, err
	}
	e.Kids = kids
	return e, api.OK
}
