package resolve

import (
	"strings"

	"cardindex/agg"
	"cardindex/api"
	"cardindex/catalog"
	"cardindex/value"
)

// source is a table, and what it is called.
type source struct {
	called string
	table  api.Table
}

// scope is the sources that are seen where an expression stands.
type scope struct {
	sources []source
}

// of is a table as the only source.
func of(t api.Table) scope {
	return scope{[]source{{t.Name, t}}}
}

// turn is what makes an expression another one, or tells what is wrong with it.
type turn func(e api.Expr) (api.Expr, api.Errno)

// resolver resolves expressions among the sources; of a total it tells what total tells.
func (s scope) resolver(total turn) turn {
	var resolve turn
	resolve = func(e api.Expr) (api.Expr, api.Errno) {
		if isTotal(e) {
			return total(e)
		}
		kids, err := each(e.Kids, resolve)
		switch {
		case err != api.OK:
			return api.Expr{}, err
		case e.Kind == api.EName:
			return s.column(e)
		case e.Kind == api.ECall && !isFunction(e):
			return api.Expr{}, api.ErrCall
		}
		return api.Expr{Kind: e.Kind, S: strings.Clone(e.S), N: e.N, Kids: kids}, api.OK
	}
	return resolve
}

// noTotal is for totals where none may be.
func noTotal(api.Expr) (api.Expr, api.Errno) {
	return api.Expr{}, api.ErrTotal
}

func isTotal(e api.Expr) bool {
	return e.Kind == api.ECall && agg.Known(e.S) && (len(e.Kids) == 1 || e.N == 2 && e.S == "count")
}

// isFunction: is a call one of a function that there is?
func isFunction(e api.Expr) bool {
	return e.N == 0 && value.Known(e.S, len(e.Kids))
}

// named is the places of the sources that are called so, without a name of all.
func (s scope) named(name string) []int {
	var told []int
	for at, x := range s.sources {
		if name == "" || x.called == name {
			told = append(told, at)
		}
	}
	return told
}

// column is the place of the column that a name names.
func (s scope) column(name api.Expr) (api.Expr, api.Errno) {
	among := s.named(name.T)
	if name.T != "" && len(among) == 0 {
		return api.Expr{}, api.ErrNone
	}
	var found []api.Expr
	for _, at := range among {
		if col, there := catalog.Column(s.sources[at].table, name.S); there {
			found = append(found, api.Expr{Kind: api.EThis, A: at, N: int64(col)})
		}
	}
	switch len(found) {
	case 0:
		return api.Expr{}, api.ErrColumn
	case 1:
		return found[0], api.OK
	}
	return api.Expr{}, api.ErrAmbig
}
