package parse

import "cardindex/api"

// looker looks a statement through, in the order in which it is shown. It stops at the first part that is wrong or one too many: what is handed in may stand within itself.
type looker struct {
	shapes map[api.ExprKind]shape
	parts  int   // how many there were so far
	binds  int64 // how many of them were binds
}

// all: is each of a list a part that is right?
func all[T any](l *looker, list []T, right func(T) bool) bool {
	for _, part := range list {
		l.parts++
		if l.parts > api.MaxParts || !right(part) {
			return false
		}
	}
	return true
}

// exprs: are these right expressions, that stand in no other one?
func (l *looker) exprs(list ...api.Expr) bool {
	return all(l, list, l.expr(1))
}

// one: is this one right expression, or none?
func (l *looker) one(list []api.Expr) bool {
	return len(list) <= 1 && l.exprs(list...)
}

// expr tells which expressions are right that stand so deep.
func (l *looker) expr(deep int) func(e api.Expr) bool {
	return func(e api.Expr) bool {
		return deep <= api.MaxNest && e.Kind != api.EStar && l.fits(e) && l.isNext(e) && all(l, e.Kids, l.expr(deep+1))
	}
}

// fits: has e what its kind has, and nothing else?
func (l *looker) fits(e api.Expr) bool {
	has, known := l.shapes[e.Kind]
	return known && e.A == 0 && 0 <= e.N && e.N <= has.n && has.s(e.S) && has.t(e.T) && has.kids(e)
}

// isNext: is e, if it is a bind, the next one?
func (l *looker) isNext(e api.Expr) bool {
	if e.Kind != api.EBind {
		return true
	}
	l.binds++
	return e.N == l.binds-1
}

func (l *looker) stmt(s api.Stmt) bool {
	return hasItsFields(s) && isNameOrNone(s.Table) && isNameOrNone(s.Name) &&
		all(l, s.Names, isName) &&
		all(l, s.Rows, l.row) && len(s.Query) <= 1 && l.queries(s.Query) &&
		(s.Kind != api.SUpdate || len(s.Names) == len(s.Exprs)) && l.exprs(s.Exprs...) &&
		l.one(s.Where) &&
		all(l, s.Cols, func(c api.Col) bool { return isName(c.Name) }) &&
		all(l, s.Keys, func(k api.KeyCol) bool { return isName(k.Name) })
}

func (l *looker) row(row []api.Expr) bool {
	return len(row) > 0 && l.exprs(row...)
}

// queries: are all of these right? (A query is no part itself.)
func (l *looker) queries(list []api.Select) bool {
	for _, q := range list {
		if !l.query(q) {
			return false
		}
	}
	return true
}

func (l *looker) query(q api.Select) bool {
	return len(q.Items) > 0 && all(l, q.Items, l.item) &&
		(len(q.From) == 0 || len(q.From[0].On) == 0) && all(l, q.From, l.source) &&
		l.one(q.Where) &&
		l.exprs(q.Group...) && (len(q.Group) > 0 || len(q.Having) == 0) && l.one(q.Having) &&
		all(l, q.Order, func(k api.Key) bool { return l.exprs(k.Expr) }) &&
		(len(q.Limit) > 0 || len(q.Offset) == 0) && l.one(q.Limit) && l.one(q.Offset)
}

func (l *looker) item(i api.Item) bool {
	if i.Expr.Kind == api.EStar {
		return i.As == "" && all(l, []api.Expr{i.Expr}, l.fits)
	}
	return l.exprs(i.Expr) && isNameOrNone(i.As)
}

func (l *looker) source(s api.Source) bool {
	return isName(s.Table) && isNameOrNone(s.As) && l.one(s.On)
}
