package parse

import "cardindex/api"

func (r *reader) whole() api.Stmt {
	s := r.stmt()
	r.has(";")
	if r.word.Kind != api.WEnd {
		r.refuse()
	}
	return s
}

func (r *reader) stmt() api.Stmt {
	switch r.sign("insert", "update", "delete", "create", "drop", "begin", "commit", "rollback") {
	case "insert":
		return r.insert()
	case "update":
		return r.update()
	case "delete":
		r.must("from")
		return api.Stmt{Kind: api.SDelete, Table: r.name(), Where: r.behind("where")}
	case "create":
		return r.create()
	case "drop":
		return r.drop()
	case "begin":
		return api.Stmt{Kind: api.SBegin}
	case "commit":
		return api.Stmt{Kind: api.SCommit}
	case "rollback":
		return api.Stmt{Kind: api.SRollback}
	}
	return api.Stmt{Kind: api.SSelect, Query: []api.Select{r.query()}}
}

func (r *reader) insert() api.Stmt {
	r.must("into")
	s := api.Stmt{Kind: api.SInsert, Table: r.name()}
	if r.has("(") {
		s.Names = list(r, r.name)
		r.must(")")
	}
	if r.has("values") {
		s.Rows = list(r, r.row)
	} else {
		s.Query = []api.Select{r.query()}
	}
	return s
}

func (r *reader) row() []api.Expr {
	return enclosed(r, r.expr)
}

func (r *reader) update() api.Stmt {
	s := api.Stmt{Kind: api.SUpdate, Table: r.name()}
	r.must("set")
	s.Names = list(r, func() string {
		name := r.name()
		r.must("=")
		s.Exprs = append(s.Exprs, r.expr())
		return name
	})
	s.Where = r.behind("where")
	return s
}

func (r *reader) create() api.Stmt {
	switch r.sign("table", "unique", "index") {
	case "table":
		return api.Stmt{Kind: api.STable, Table: r.name(), Cols: enclosed(r, r.col)}
	case "unique":
		r.must("index")
		return r.index(true)
	case "index":
		return r.index(false)
	}
	r.refuse()
	return api.Stmt{}
}

func (r *reader) col() api.Col {
	c := api.Col{Name: r.name()}
	if r.has("not") {
		r.must("null")
		c.NotNull = true
	}
	c.Unique = r.has("unique")
	return c
}

// index is what stands behind that key.
func (r *reader) index(unique bool) api.Stmt {
	s := api.Stmt{Kind: api.SIndex, Unique: unique, Name: r.name()}
	r.must("on")
	s.Table = r.name()
	s.Keys = enclosed(r, func() api.KeyCol {
		return api.KeyCol{Name: r.name(), Desc: r.falls()}
	})
	return s
}

// falls is what stands behind a key or a column of an index.
func (r *reader) falls() bool {
	return r.sign("asc", "desc") == "desc"
}

func (r *reader) drop() api.Stmt {
	switch r.sign("table", "index") {
	case "table":
		return api.Stmt{Kind: api.SDropT, Table: r.name()}
	case "index":
		return api.Stmt{Kind: api.SDropI, Name: r.name()}
	}
	r.refuse()
	return api.Stmt{}
}

func (r *reader) query() api.Select {
	r.must("select")
	q := api.Select{Distinct: r.has("distinct")}
	q.Items = list(r, r.item)
	if r.has("from") {
		q.From = r.sources()
	}
	q.Where = r.behind("where")
	if r.has("group") {
		r.must("by")
		q.Group = list(r, r.expr)
		q.Having = r.behind("having")
	}
	if r.has("order") {
		r.must("by")
		q.Order = list(r, func() api.Key {
			return api.Key{Expr: r.expr(), Desc: r.falls()}
		})
	}
	q.Limit = r.behind("limit")
	if len(q.Limit) > 0 {
		q.Offset = r.behind("offset")
	}
	return q
}

// behind is the expression behind a key, if that stands there.
func (r *reader) behind(key string) []api.Expr {
	if !r.has(key) {
		return nil
	}
	return []api.Expr{r.expr()}
}

func (r *reader) item() api.Item {
	if r.has("*") {
		return api.Item{Expr: api.Expr{Kind: api.EStar}}
	}
	// an expression may begin with a name and a point, too: what stands behind them tells which it is
	if r.word.Kind == api.WName && r.ahead(".", "*") {
		table := r.name()
		r.must(".", "*")
		return api.Item{Expr: api.Expr{Kind: api.EStar, T: table}}
	}
	return api.Item{Expr: r.expr(), As: r.called()}
}

// called is by what an item or a source is called; "", if nothing is said.
func (r *reader) called() string {
	if !r.has("as") {
		return ""
	}
	return r.name()
}

func (r *reader) source() api.Source {
	return api.Source{Table: r.name(), As: r.called()}
}

// sources is what stands behind from.
func (r *reader) sources() []api.Source {
	told := []api.Source{r.source()}
	for sign := r.sign(",", "join"); sign != ""; sign = r.sign(",", "join") {
		s := r.source()
		if sign == "join" {
			r.must("on")
			s.On = []api.Expr{r.expr()}
		}
		told = append(told, s)
	}
	return told
}
