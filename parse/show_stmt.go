package parse

import "cardindex/api"

func (w *writer) stmt(s api.Stmt) {
	switch s.Kind {
	case api.SSelect:
		each(w, s.Query, w.query)
	case api.SInsert:
		w.insert(s)
	case api.SUpdate:
		w.update(s)
	case api.SDelete:
		w.say("delete", "from", s.Table)
		behind(w, s.Where, w.expr, "where")
	case api.STable:
		w.say("create", "table", s.Table)
		enclose(w, s.Cols, w.col)
	case api.SIndex:
		w.say("create")
		w.sayIf(s.Unique, "unique")
		w.say("index", s.Name, "on", s.Table)
		enclose(w, s.Keys, w.keyCol)
	case api.SDropT:
		w.say("drop", "table", s.Table)
	case api.SDropI:
		w.say("drop", "index", s.Name)
	case api.SBegin:
		w.say("begin")
	case api.SCommit:
		w.say("commit")
	case api.SRollback:
		w.say("rollback")
	}
}

func (w *writer) insert(s api.Stmt) {
	w.say("insert", "into", s.Table)
	if len(s.Names) > 0 {
		enclose(w, s.Names, w.name)
	}
	behind(w, s.Rows, w.row, "values")
	each(w, s.Query, w.query)
}

func (w *writer) name(s string) {
	w.say(s)
}

func (w *writer) row(row []api.Expr) {
	enclose(w, row, w.expr)
}

func (w *writer) update(s api.Stmt) {
	exprs := s.Exprs
	behind(w, s.Names, func(name string) {
		w.say(name, "=")
		w.expr(exprs[0])
		exprs = exprs[1:]
	}, "update", s.Table, "set")
	behind(w, s.Where, w.expr, "where")
}

func (w *writer) col(c api.Col) {
	w.say(c.Name)
	w.sayIf(c.NotNull, "not", "null")
	w.sayIf(c.Unique, "unique")
}

func (w *writer) keyCol(k api.KeyCol) {
	w.say(k.Name)
	w.sayIf(k.Desc, "desc")
}

func (w *writer) query(q api.Select) {
	w.say("select")
	w.sayIf(q.Distinct, "distinct")
	each(w, q.Items, w.item)
	w.sources(q.From)
	behind(w, q.Where, w.expr, "where")
	behind(w, q.Group, w.expr, "group", "by")
	behind(w, q.Having, w.expr, "having")
	behind(w, q.Order, w.key, "order", "by")
	behind(w, q.Limit, w.expr, "limit")
	behind(w, q.Offset, w.expr, "offset")
}

func (w *writer) item(i api.Item) {
	w.expr(i.Expr)
	w.called(i.As)
}

// called shows by what an item or a source is called, if that is told.
func (w *writer) called(as string) {
	w.sayIf(as != "", "as", as)
}

func (w *writer) key(k api.Key) {
	w.expr(k.Expr)
	w.sayIf(k.Desc, "desc")
}

// sources shows what stands behind from: a comma ahead of one that is joined on nothing.
func (w *writer) sources(from []api.Source) {
	for i, s := range from {
		switch {
		case i == 0:
			w.say("from")
		case len(s.On) == 0:
			w.say(",")
		default:
			w.say("join")
		}
		w.say(s.Table)
		w.called(s.As)
		behind(w, s.On, w.expr, "on")
	}
}
