package parse

import (
	"reflect"
	"strings"

	"cardindex/api"
	"cardindex/words"
)

// stmts_test.go: right statements by chance, and texts that say them.

// numbered numbers a statement's binds, in the order in which they are shown.
func numbered(s api.Stmt) api.Stmt {
	told := plain(s)
	n := int64(0)
	var walk func(v reflect.Value)
	walk = func(v reflect.Value) {
		switch v.Kind() {
		case reflect.Slice:
			for i := range v.Len() {
				walk(v.Index(i))
			}
		case reflect.Struct:
			if e, ok := v.Addr().Interface().(*api.Expr); ok && e.Kind == api.EBind {
				e.N = n
				n++
			}
			for i := range v.NumField() {
				walk(v.Field(i))
			}
		}
	}
	walk(reflect.ValueOf(&told).Elem())
	return told
}

func (c *chance) name() string {
	return of(c, "a", "b", "c", "t", "x", "_", "t1", "count", "abs", "selected", "x_", strings.Repeat("z", 1+c.below(20)))
}

// perhaps is what make makes, or nothing.
func (c *chance) perhaps(make func() string) string {
	if c.is() {
		return ""
	}
	return make()
}

func (c *chance) bytes() string {
	return of(c, "", "a", "it's", "''", "--", " ( ", "\x00\n\xff", "select", ")", ",", "é")
}

// leaf is an expression without kids.
func (c *chance) leaf() api.Expr {
	switch c.below(9) {
	case 0:
		return null
	case 1:
		return number(of(c, int64(0), 1, 7, 1<<31, 1<<63-1))
	case 2:
		return text(c.bytes())
	case 3:
		return blob(c.bytes())
	case 4:
		return bind(0)
	case 5:
		return call(c.name(), of(c, int64(0), 2))
	case 6:
		return nameOf(c.name(), c.name())
	}
	return name(c.name())
}

// expr is an expression of at most so many below another.
func (c *chance) expr(deep int) api.Expr {
	if deep <= 1 || c.below(5) == 0 {
		return c.leaf()
	}
	kid := func() api.Expr { return c.expr(deep - 1) }
	switch c.below(9) {
	case 0:
		return op("not", kid())
	case 1:
		return op("-", kid())
	case 2:
		return is(int64(c.below(2)), kid())
	case 3:
		return in(int64(c.below(2)), some(c, 2, 4, kid)...)
	case 4:
		return call(c.name(), 0, some(c, 0, 3, kid)...)
	case 5:
		return of(c, cast(kid(), of(c, "int", "text")), call(c.name(), 1, kid()))
	}
	return op(of(c, "+", "-", "*", "/", "%", "||", "=", "<>", "<", "<=", ">", ">=", "and", "or", "like"), kid(), kid())
}

func (c *chance) any() api.Expr {
	return c.expr(1 + c.below(5))
}

func (c *chance) optional() []api.Expr {
	return some(c, 0, 1, c.any)
}

func (c *chance) item() api.Item {
	if c.below(4) == 0 {
		return api.Item{Expr: api.Expr{Kind: api.EStar, T: c.perhaps(c.name)}}
	}
	return api.Item{Expr: c.any(), As: c.perhaps(c.name)}
}

func (c *chance) query() api.Select {
	q := api.Select{Distinct: c.below(4) == 0, Items: some(c, 1, 3, c.item), Where: c.optional(), Group: some(c, 0, 2, c.any), Limit: c.optional()}
	q.From = some(c, 0, 3, func() api.Source {
		return api.Source{Table: c.name(), As: c.perhaps(c.name), On: c.optional()}
	})
	if len(q.From) > 0 {
		q.From[0].On = nil
	}
	if len(q.Group) > 0 {
		q.Having = c.optional()
	}
	if len(q.Limit) > 0 {
		q.Offset = c.optional()
	}
	q.Order = some(c, 0, 2, func() api.Key { return api.Key{Expr: c.any(), Desc: c.is()} })
	return q
}

// stmt is a right statement.
func (c *chance) stmt() api.Stmt {
	s := api.Stmt{Kind: api.StmtKind(1 + c.below(11))}
	if c.below(3) == 0 {
		s.Kind = api.SSelect
	}
	switch s.Kind {
	case api.SSelect:
		s.Query = some(c, 1, 1, c.query)
	case api.SInsert:
		s.Table, s.Names = c.name(), some(c, 0, 3, c.name)
		if c.is() {
			s.Query = some(c, 1, 1, c.query)
		} else {
			s.Rows = some(c, 1, 3, func() []api.Expr { return some(c, 1, 3, c.any) })
		}
	case api.SUpdate:
		s.Table, s.Exprs, s.Where = c.name(), some(c, 1, 3, c.any), c.optional()
		s.Names = some(c, len(s.Exprs), len(s.Exprs), c.name)
	case api.SDelete:
		s.Table, s.Where = c.name(), c.optional()
	case api.STable:
		s.Table = c.name()
		s.Cols = some(c, 1, 4, func() api.Col { return api.Col{Name: c.name(), NotNull: c.is(), Unique: c.is()} })
	case api.SIndex:
		s.Name, s.Table, s.Unique = c.name(), c.name(), c.is()
		s.Keys = some(c, 1, 4, func() api.KeyCol { return api.KeyCol{Name: c.name(), Desc: c.is()} })
	case api.SDropT:
		s.Table = c.name()
	case api.SDropI:
		s.Name = c.name()
	}
	return numbered(s)
}

// tokens is a text's tokens, each as it stands there.
func tokens(text string) []string {
	var told []string
	for at := 0; ; {
		w, f := words.Next(text, at)
		if f.Err != api.OK || w.Kind == api.WEnd {
			return told
		}
		told = append(told, text[w.At:w.End])
		at = w.End
	}
}

// put is tokens as a text: with what is passed over between them, letters great or small where that says nothing.
func (c *chance) put(tokens []string) string {
	var told strings.Builder
	for i, token := range tokens {
		if i > 0 || c.below(4) == 0 {
			told.WriteString(of(c, " ", " ", " ", "\n", "\t\r ", " -- it's (\n", " --\n--\n"))
		}
		if c.below(5) == 0 && !strings.Contains(token, "'") {
			token = strings.ToUpper(token)
		}
		told.WriteString(token)
	}
	return told.String() + of(c, "", "", " ", "\n", " -- end")
}
