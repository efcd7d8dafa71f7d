package resolve

import (
	"slices"
	"strings"

	"cardindex/api"
)

// each is what turn makes of each of a list, up to the first error.
func each[T, U any](list []T, turn func(T) (U, api.Errno)) ([]U, api.Errno) {
	var told []U
	for _, one := range list {
		made, err := turn(one)
		if err != api.OK {
			return nil, err
		}
		told = append(told, made)
	}
	return told, api.OK
}

// same tells which expressions are the same as e.
func same(e api.Expr) func(other api.Expr) bool {
	return func(other api.Expr) bool {
		return e.Kind == other.Kind && e.S == other.S && e.T == other.T && e.N == other.N && e.A == other.A && sameList(e.Kids, other.Kids)
	}
}

func sameList(list, other []api.Expr) bool {
	return slices.EqualFunc(list, other, func(e, other api.Expr) bool { return same(e)(other) })
}

// sameTotal tells which totals are the same as t.
func sameTotal(t api.Total) func(other api.Total) bool {
	return func(other api.Total) bool {
		return t.Func == other.Func && t.Distinct == other.Distinct && sameList(t.Args, other.Args)
	}
}

// howMany is how many of these expressions, and of those within them, are so.
func howMany(list []api.Expr, are func(e api.Expr) bool) int {
	n := 0
	for _, e := range list {
		if are(e) {
			n++
		}
		n += howMany(e.Kids, are)
	}
	return n
}

func isBind(e api.Expr) bool { return e.Kind == api.EBind }

// exprsOf is all expressions of a statement, but for those within others.
func exprsOf(x api.Stmt) []api.Expr {
	all := slices.Concat(slices.Concat(x.Rows...), x.Exprs, x.Where)
	for _, q := range x.Query {
		all = slices.Concat(all, itemsOf(q), q.Where, q.Group, q.Having, orderOf(q), q.Limit, q.Offset)
		for _, f := range q.From {
			all = append(all, f.On...)
		}
	}
	return all
}

// itemsOf is the expressions that a query tells.
func itemsOf(x api.Select) []api.Expr {
	var told []api.Expr
	for _, item := range x.Items {
		told = append(told, item.Expr)
	}
	return told
}

// orderOf is the expressions that a query is sorted by.
func orderOf(x api.Select) []api.Expr {
	var told []api.Expr
	for _, k := range x.Order {
		told = append(told, k.Expr)
	}
	return told
}

// again is a resolved expression once more, in lists of its own.
func again(e api.Expr) api.Expr {
	kids := e.Kids
	e.Kids = nil
	for _, kid := range kids {
		e.Kids = append(e.Kids, again(kid))
	}
	return e
}

// ownStmt is a statement that makes or drops something, or begins or ends a transaction, in memory of its own.
func ownStmt(x api.Stmt) api.Stmt {
	told := api.Stmt{Kind: x.Kind, Table: strings.Clone(x.Table), Name: strings.Clone(x.Name), Unique: x.Unique}
	for _, c := range x.Cols {
		c.Name = strings.Clone(c.Name)
		told.Cols = append(told.Cols, c)
	}
	for _, k := range x.Keys {
		k.Name = strings.Clone(k.Name)
		told.Keys = append(told.Keys, k)
	}
	return told
}
