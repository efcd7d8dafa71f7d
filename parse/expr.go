package parse

import "cardindex/api"

// op is an operation on one or two kids.
func op(sign string, kids ...api.Expr) api.Expr {
	return api.Expr{Kind: api.EOp, S: sign, Kids: kids}
}

// two is the rule of operations on two, each of which is told by the rule below.
func (r *reader) two(below func() api.Expr, signs ...string) func() api.Expr {
	return func() api.Expr {
		e := below()
		for sign := r.sign(signs...); sign != ""; sign = r.sign(signs...) {
			e = op(sign, e, below())
		}
		return e
	}
}

func (r *reader) not() api.Expr {
	return r.within(func() api.Expr {
		if r.has("not") {
			return op("not", r.not())
		}
		return r.compare()
	})
}

func (r *reader) compare() api.Expr {
	e := r.sum()
	switch sign := r.sign("=", "<>", "<", "<=", ">", ">=", "like", "is", "in", "not"); sign {
	case "":
		return e
	case "is":
		return r.isNull(e)
	case "in":
		return r.isIn(e, 0)
	case "not":
		r.must("in")
		return r.isIn(e, 1)
	default:
		return op(sign, e, r.sum())
	}
}

// isNull is what stands behind is.
func (r *reader) isNull(e api.Expr) api.Expr {
	told := api.Expr{Kind: api.EIs, N: 1, Kids: []api.Expr{e}}
	if r.has("not") {
		told.N = 0
	}
	r.must("null")
	return told
}

// isIn is what stands behind in.
func (r *reader) isIn(e api.Expr, not int64) api.Expr {
	kids := append([]api.Expr{e}, enclosed(r, r.expr)...)
	return api.Expr{Kind: api.EIn, N: not, Kids: kids}
}

func (r *reader) unary() api.Expr {
	return r.within(func() api.Expr {
		if r.has("-") {
			return op("-", r.unary())
		}
		return r.primary()
	})
}

func (r *reader) primary() api.Expr {
	switch r.word.Kind {
	case api.WInt:
		return api.Expr{Kind: api.EInt, N: r.read().N}
	case api.WText:
		return api.Expr{Kind: api.EText, S: r.read().S}
	case api.WBlob:
		return api.Expr{Kind: api.EBlob, S: r.read().S}
	case api.WName:
		return r.named()
	}
	switch r.sign("null", "?", "cast", "(") {
	case "null":
		return api.Expr{Kind: api.ENull}
	case "?":
		r.binds++
		return api.Expr{Kind: api.EBind, N: r.binds - 1}
	case "cast":
		return r.cast()
	case "(":
		e := r.expr()
		r.must(")")
		return e
	}
	r.refuse()
	return api.Expr{}
}

// named is what begins with a name.
func (r *reader) named() api.Expr {
	name := r.name()
	switch r.sign(".", "(") {
	case ".":
		return api.Expr{Kind: api.EName, T: name, S: r.name()}
	case "(":
		return r.call(name)
	}
	return api.Expr{Kind: api.EName, S: name}
}

// call is what stands behind a function's name and a parenthesis.
func (r *reader) call(name string) api.Expr {
	e := api.Expr{Kind: api.ECall, S: name}
	switch r.sign(")", "*", "distinct") {
	case ")":
		return e
	case "*":
		e.N = 2
	case "distinct":
		e.N = 1
		e.Kids = []api.Expr{r.expr()}
	default:
		e.Kids = list(r, r.expr)
	}
	r.must(")")
	return e
}

// cast is what stands behind that key.
func (r *reader) cast() api.Expr {
	r.must("(")
	kid := r.expr()
	r.must("as")
	to := r.sign("int", "text")
	if to == "" {
		r.refuse()
	}
	r.must(")")
	return api.Expr{Kind: api.ECast, S: to, Kids: []api.Expr{kid}}
}
