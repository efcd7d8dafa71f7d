package parse

import (
	"math"
	"reflect"
	"slices"
	"strings"
	"testing"

	"cardindex/api"
)

// right_test.go: P10.2, Right.

// P10.2: right expressions, and what is wrong with others, wherever they stand.
func TestRightExpressions(t *testing.T) {
	for what, e := range map[string]api.Expr{
		"null": null, "0": number(0), "the greatest int": number(math.MaxInt64), "a text": text("x"), "no text": text(""), "any bytes": text("\x00'\xff"), "a blob": blob("x"), "no blob": blob(""), "a bind": bind(0),
		"a name": a, "a name of x": name("x"), "a name of _": name("_"), "a name with digits": name("a1_2"), "a name beginning as a key": name("selected"), "of a table": nameOf("t", "a"), "a function's name": name("count"),
		"is null": is(1, a), "is not null": is(0, a), "in": in(0, a, b), "not in": in(1, a, b), "in more": in(0, a, b, c, null),
		"a call": call("f", 0), "a call of one": call("f", 0, a), "a call of more": call("f", 0, a, b, null), "distinct": call("f", 1, a), "of *": call("count", 2),
		"cast as int": cast(a, "int"), "cast as text": cast(a, "text"), "-": op("-", a), "not": op("not", a), "empty lists": {Kind: api.ENull, Kids: []api.Expr{}},
	} {
		for where, s := range statementsOf(e) {
			isRight(t, what+" "+where, s)
		}
	}
	for _, sign := range []string{"+", "-", "*", "/", "%", "||", "=", "<>", "<", "<=", ">", ">=", "and", "or", "like"} {
		isRight(t, sign, tell(op(sign, a, b)))
		isWrong(t, sign+" of none", tell(op(sign)))
		isWrong(t, sign+" of three", tell(op(sign, a, b, c)))
		if sign != "-" {
			isWrong(t, sign+" of one", tell(op(sign, a)))
		}
		isWrong(t, strings.ToUpper(sign)+"x", tell(op(sign+"x", a, b)))
	}
	for what, e := range map[string]api.Expr{
		"nothing": {}, "this": {Kind: api.EThis}, "this column": {Kind: api.EThis, N: 1, A: 1}, "a total": {Kind: api.ETotal}, "no kind": {Kind: 15}, "no kind at all": {Kind: 255, Kids: list1(a)},
		"null with S": {Kind: api.ENull, S: "a"}, "null with T": {Kind: api.ENull, T: "a"}, "null with N": {Kind: api.ENull, N: 1}, "null with A": {Kind: api.ENull, A: 1}, "null with a kid": {Kind: api.ENull, Kids: list1(a)},
		"an int below 0": number(-1), "the least int": number(math.MinInt64), "an int with S": {Kind: api.EInt, S: "1"}, "an int with A": {Kind: api.EInt, A: -1}, "an int with a kid": {Kind: api.EInt, Kids: list1(a)},
		"a text with T": {Kind: api.EText, T: "t"}, "a text with N": {Kind: api.EText, N: 1}, "a text with a kid": {Kind: api.EText, Kids: list1(null)}, "a blob with T": {Kind: api.EBlob, T: "t"}, "a blob with N": {Kind: api.EBlob, N: -1}, "a blob with A": {Kind: api.EBlob, A: 1},
		"the second bind alone": bind(1), "a bind below 0": bind(-1), "a bind with S": {Kind: api.EBind, S: "?"}, "the greatest bind": bind(math.MaxInt64),
		"no name": name(""), "a great name": name("A"), "a key": name("select"), "a great key": name("SELECT"), "a number": name("1"), "a name behind a digit": name("1a"), "two names": name("a b"), "a blank ahead": name(" a"), "a blank behind": name("a "), "a remark behind": name("a--"), "a point": name("t.a"), "a blob's name": name("x'00'"), "a quoted one": name("'a'"), "no letters": name("é"), "a name and no byte": name("a\x00"), "a sign": name("*"), "one too long": name(strings.Repeat("a", api.MaxText+1)),
		"a name with N": {Kind: api.EName, S: "a", N: 1}, "a name with a kid": {Kind: api.EName, S: "a", Kids: list1(a)}, "a table's name alone": {Kind: api.EName, T: "t"}, "of a great table": nameOf("T", "a"), "of a key": nameOf("from", "a"), "of a table with a blank": nameOf("t ", "a"), "of *": nameOf("*", "a"),
		"no sign": op("", a, b), "no sign of one": op("", a), "not of two": op("not", a, b), "not of none": op("not"), "- of none": op("-"), "!": op("!", a), "==": op("==", a, b), "is": op("is", a, b), "in": op("in", a, b), "AND": op("AND", a, b), "NOT": op("NOT", a), "~": op("~", a), "<> with a blank": op("< >", a, b), ",": op(",", a, b), "+ of one": op("+", a), "like of one": op("like", a),
		"an operation with T": {Kind: api.EOp, S: "+", T: "t", Kids: list1(a, b)}, "an operation with N": {Kind: api.EOp, S: "+", N: 1, Kids: list1(a, b)}, "an operation with A": {Kind: api.EOp, S: "+", A: 1, Kids: list1(a, b)},
		"is below 0": is(-1, a), "is 2": is(2, a), "is of none": {Kind: api.EIs}, "is of two": {Kind: api.EIs, Kids: list1(a, b)}, "is with S": {Kind: api.EIs, S: "is", Kids: list1(a)}, "is with T": {Kind: api.EIs, T: "t", Kids: list1(a)},
		"in below 0": in(-1, a, b), "in 2": in(2, a, b), "in of none": in(0), "in of one": in(0, a), "not in of one": in(1, a), "in with S": {Kind: api.EIn, S: "in", Kids: list1(a, b)}, "in with A": {Kind: api.EIn, A: 2, Kids: list1(a, b)},
		"a call of no name": call("", 0), "a call of a key": call("cast", 0, a), "a great call": call("F", 0), "a call below 0": call("f", -1), "a call 3": call("f", 3), "distinct of none": call("f", 1), "distinct of two": call("f", 1, a, b), "* and one": call("f", 2, a), "* and *": call("f", 2, star), "a call of *": call("f", 0, star), "a call with T": {Kind: api.ECall, S: "f", T: "t"}, "a call with A": {Kind: api.ECall, S: "f", A: 1},
		"cast as blob": cast(a, "blob"), "cast as INT": cast(a, "INT"), "cast as nothing": cast(a, ""), "cast of none": {Kind: api.ECast, S: "int"}, "cast of two": {Kind: api.ECast, S: "int", Kids: list1(a, b)}, "cast with N": {Kind: api.ECast, S: "int", N: 1, Kids: list1(a)}, "cast with T": {Kind: api.ECast, S: "int", T: "t", Kids: list1(a)},
		"a wrong kid": op("-", api.Expr{}), "a wrong second kid": op("+", a, name("")), "a wrong kid within": call("f", 0, a, is(1, in(0, a, b, number(-1)))), "a kid that is *": op("-", star), "a wrong last kid": in(0, a, b, name("B")),
	} {
		for where, s := range statementsOf(e) {
			isWrong(t, what+" "+where, s)
		}
	}
}

// statementsOf is statements in each of which an expression stands, by where.
func statementsOf(e api.Expr) map[string]api.Stmt {
	l := list1(e)
	told := map[string]api.Stmt{
		"in values":         {Kind: api.SInsert, Table: "t", Rows: [][]api.Expr{{e}}},
		"in values, behind": {Kind: api.SInsert, Table: "t", Rows: [][]api.Expr{{a}, {b, e}}},
		"in set":            {Kind: api.SUpdate, Table: "t", Names: []string{"a", "b"}, Exprs: list1(c, e)},
		"in update's where": {Kind: api.SUpdate, Table: "t", Names: []string{"a"}, Exprs: list1(c), Where: l},
		"in delete's where": {Kind: api.SDelete, Table: "t", Where: l},
		"within":            tell(op("+", call("f", 0, a, e), in(0, b, c))),
	}
	for where, q := range map[string]api.Select{
		"in an item":      {Items: items(e)},
		"in a later item": {Items: []api.Item{{Expr: a, As: "b"}, {Expr: e, As: "a"}}},
		"in on":           {Items: items(a), From: []api.Source{{Table: "t"}, {Table: "u", On: l}}},
		"in where":        {Items: items(a), Where: l},
		"in group":        {Items: items(a), Group: list1(a, e)},
		"in having":       {Items: items(a), Group: list1(a), Having: l},
		"in order":        {Items: items(a), Order: []api.Key{{Expr: a}, {Expr: e, Desc: true}}},
		"in limit":        {Items: items(a), Limit: l},
		"in offset":       {Items: items(a), Limit: list1(a), Offset: l},
	} {
		told[where] = choose(q)
		told[where+" of insert"] = api.Stmt{Kind: api.SInsert, Table: "t", Query: []api.Select{q}}
	}
	return told
}

// P10.2: * stands as a whole item alone, called nothing.
func TestRightStars(t *testing.T) {
	ofTable := func(table string) api.Expr { return api.Expr{Kind: api.EStar, T: table} }
	for _, e := range []api.Expr{star, ofTable("t"), ofTable("x")} {
		isRight(t, "an item", tell(e))
		isRight(t, "items", tell(a, e, e))
		isWrong(t, "an item that is called something", choose(api.Select{Items: []api.Item{{Expr: e, As: "a"}}}))
		for where, s := range statementsOf(e) {
			if strings.HasPrefix(where, "in an item") {
				isRight(t, where, s)
			} else {
				isWrong(t, "* "+where, s)
			}
		}
	}
	for _, e := range []api.Expr{ofTable("T"), ofTable("select"), ofTable("*"), ofTable("t.u"), {Kind: api.EStar, S: "a"}, {Kind: api.EStar, N: 1}, {Kind: api.EStar, N: -1}, {Kind: api.EStar, A: 1}, {Kind: api.EStar, Kids: list1(a)}} {
		isWrong(t, "a wrong *", tell(e))
		isWrong(t, "a wrong * behind", tell(a, e))
	}
}

// P10.2: right queries, and wrong ones.
func TestRightQueries(t *testing.T) {
	l, two := list1(a), list1(a, b)
	from := func(all ...api.Source) api.Select { return api.Select{Items: items(a), From: all} }
	t1 := api.Source{Table: "t"}
	for what, q := range map[string]api.Select{
		"one item": {Items: items(a)}, "called something": {Items: []api.Item{{Expr: a, As: "b"}}}, "distinct": {Distinct: true, Items: items(a)},
		"a source": from(t1), "called": from(api.Source{Table: "t", As: "u"}), "sources": from(t1, t1, t1), "joined": from(t1, api.Source{Table: "u", On: l}), "joined and not": from(t1, api.Source{Table: "u", As: "v", On: l}, t1, api.Source{Table: "w", On: l}), "joined on no list": from(api.Source{Table: "t", On: []api.Expr{}}),
		"where": {Items: items(a), Where: l}, "group": {Items: items(a), Group: two}, "having": {Items: items(a), Group: l, Having: l}, "order": {Items: items(a), Order: []api.Key{{Expr: a, Desc: true}, {Expr: b}}}, "limit": {Items: items(a), Limit: l}, "offset": {Items: items(a), Limit: l, Offset: l},
	} {
		isRight(t, what, choose(q))
		isRight(t, "insert "+what, api.Stmt{Kind: api.SInsert, Table: "t", Names: []string{"a"}, Query: []api.Select{q}})
	}
	for what, q := range map[string]api.Select{
		"nothing": {}, "no items": {From: []api.Source{t1}}, "called a great name": {Items: []api.Item{{Expr: a, As: "B"}}}, "called a key": {Items: []api.Item{{Expr: a, As: "as"}}}, "called a number": {Items: []api.Item{{Expr: a}, {Expr: a, As: "1"}}}, "an item of nothing": {Items: []api.Item{{As: "a"}}},
		"a source of nothing": from(api.Source{}), "a great source": from(api.Source{Table: "T"}), "a source that is a key": from(t1, api.Source{Table: "from"}), "a source of another": from(api.Source{Table: "s.t"}), "called alone": from(api.Source{As: "t"}), "a source called a key": from(api.Source{Table: "t", As: "on"}), "a source called a number": from(t1, api.Source{Table: "t", As: "1"}),
		"the first on": from(api.Source{Table: "t", On: l}), "the first on, of two": from(api.Source{Table: "t", On: l}, t1), "on of two": from(t1, api.Source{Table: "t", On: two}), "on of nothing": from(t1, api.Source{Table: "t", On: list1(api.Expr{})}),
		"where of two": {Items: items(a), Where: two}, "having without group": {Items: items(a), Having: l}, "having of two": {Items: items(a), Group: l, Having: two}, "group of nothing": {Items: items(a), Group: list1(api.Expr{})}, "order of nothing": {Items: items(a), Order: []api.Key{{}}}, "limit of two": {Items: items(a), Limit: two}, "offset without limit": {Items: items(a), Offset: l}, "offset of two": {Items: items(a), Limit: l, Offset: two},
	} {
		isWrong(t, what, choose(q))
		isWrong(t, "insert "+what, api.Stmt{Kind: api.SInsert, Table: "t", Query: []api.Select{q}})
	}
}

// P10.2: of each kind of statement what it has, and all else empty.
func TestRightStatements(t *testing.T) {
	rows, query := [][]api.Expr{{a}}, []api.Select{{Items: items(a)}}
	l, two, names := list1(a), list1(a, b), []string{"a", "b"}
	cols, keys := []api.Col{{Name: "a"}}, []api.KeyCol{{Name: "a", Desc: true}}
	for what, s := range map[string]api.Stmt{
		"select": {Kind: api.SSelect, Query: query}, "insert": {Kind: api.SInsert, Table: "t", Rows: rows}, "insert rows": {Kind: api.SInsert, Table: "t", Rows: [][]api.Expr{{a}, {a, b}, {c}}}, "insert names": {Kind: api.SInsert, Table: "t", Names: names, Rows: rows}, "insert query": {Kind: api.SInsert, Table: "t", Names: names, Query: query}, "insert one name twice": {Kind: api.SInsert, Table: "t", Names: []string{"a", "a"}, Query: query},
		"update": {Kind: api.SUpdate, Table: "t", Names: names, Exprs: two}, "update where": {Kind: api.SUpdate, Table: "t", Names: names, Exprs: two, Where: l}, "delete": {Kind: api.SDelete, Table: "t"}, "delete where": {Kind: api.SDelete, Table: "t", Where: l},
		"table": {Kind: api.STable, Table: "t", Cols: cols}, "table's columns": {Kind: api.STable, Table: "t", Cols: []api.Col{{Name: "a", NotNull: true, Unique: true}, {Name: "a"}}}, "index": {Kind: api.SIndex, Name: "i", Table: "t", Keys: keys}, "unique index": {Kind: api.SIndex, Name: "i", Table: "i", Keys: keys, Unique: true},
		"drop table": {Kind: api.SDropT, Table: "t"}, "drop index": {Kind: api.SDropI, Name: "i"}, "begin": {Kind: api.SBegin}, "commit": {Kind: api.SCommit}, "rollback": {Kind: api.SRollback},
		"empty lists": {Kind: api.SBegin, Names: []string{}, Rows: [][]api.Expr{}, Exprs: []api.Expr{}, Where: []api.Expr{}, Query: []api.Select{}, Cols: []api.Col{}, Keys: []api.KeyCol{}},
	} {
		isRight(t, what, s)
	}
	for what, s := range map[string]api.Stmt{
		"nothing": {}, "no kind": {Kind: 12, Table: "t"}, "no kind at all": {Kind: 255}, "select of nothing": {Kind: api.SSelect}, "select of two": {Kind: api.SSelect, Query: []api.Select{query[0], query[0]}}, "insert of two queries": {Kind: api.SInsert, Table: "t", Query: []api.Select{query[0], query[0]}},
		"insert nothing": {Kind: api.SInsert, Table: "t"}, "insert names alone": {Kind: api.SInsert, Table: "t", Names: names}, "insert both": {Kind: api.SInsert, Table: "t", Rows: rows, Query: query}, "insert into nothing": {Kind: api.SInsert, Rows: rows}, "insert an empty row": {Kind: api.SInsert, Table: "t", Rows: [][]api.Expr{{}}}, "insert an empty row behind": {Kind: api.SInsert, Table: "t", Rows: [][]api.Expr{{a}, nil}}, "insert into a key": {Kind: api.SInsert, Table: "into", Rows: rows}, "insert a key": {Kind: api.SInsert, Table: "t", Names: []string{"a", "in"}, Rows: rows}, "insert no name": {Kind: api.SInsert, Table: "t", Names: []string{""}, Rows: rows}, "insert into a name": {Kind: api.SInsert, Name: "t", Rows: rows},
		"update nothing": {Kind: api.SUpdate, Table: "t"}, "update no table": {Kind: api.SUpdate, Names: names, Exprs: two}, "update more names": {Kind: api.SUpdate, Table: "t", Names: names, Exprs: l}, "update more expressions": {Kind: api.SUpdate, Table: "t", Names: names[:1], Exprs: two}, "update names alone": {Kind: api.SUpdate, Table: "t", Names: names}, "update expressions alone": {Kind: api.SUpdate, Table: "t", Exprs: two}, "update a great name": {Kind: api.SUpdate, Table: "t", Names: []string{"A", "b"}, Exprs: two}, "update where two": {Kind: api.SUpdate, Table: "t", Names: names, Exprs: two, Where: two},
		"delete from nothing": {Kind: api.SDelete}, "delete where two": {Kind: api.SDelete, Table: "t", Where: two}, "delete from a number": {Kind: api.SDelete, Table: "7"},
		"a table of nothing": {Kind: api.STable, Table: "t"}, "no table": {Kind: api.STable, Cols: cols}, "a column of no name": {Kind: api.STable, Table: "t", Cols: []api.Col{{Unique: true}}}, "a great column": {Kind: api.STable, Table: "t", Cols: []api.Col{{Name: "a"}, {Name: "A"}}}, "a table that is a key": {Kind: api.STable, Table: "table", Cols: cols}, "a unique table": {Kind: api.STable, Table: "t", Cols: cols, Unique: true},
		"an index of nothing": {Kind: api.SIndex, Name: "i", Table: "t"}, "an index of no table": {Kind: api.SIndex, Name: "i", Keys: keys}, "an index of no name": {Kind: api.SIndex, Table: "t", Keys: keys}, "an index of a key's name": {Kind: api.SIndex, Name: "index", Table: "t", Keys: keys}, "an index of a column of no name": {Kind: api.SIndex, Name: "i", Table: "t", Keys: []api.KeyCol{{}}}, "a great column's index": {Kind: api.SIndex, Name: "i", Table: "t", Keys: []api.KeyCol{{Name: "B"}}},
		"drop nothing": {Kind: api.SDropT}, "drop no index": {Kind: api.SDropI}, "drop a table's name": {Kind: api.SDropT, Name: "t"}, "drop an index' table": {Kind: api.SDropI, Table: "i"}, "drop both": {Kind: api.SDropT, Table: "t", Name: "i"}, "drop a key": {Kind: api.SDropT, Table: "drop"}, "drop two": {Kind: api.SDropI, Name: "a, b"},
		"begin a table": {Kind: api.SBegin, Table: "t"}, "commit a name": {Kind: api.SCommit, Name: "t"}, "rollback a query": {Kind: api.SRollback, Query: query}, "begin unique": {Kind: api.SBegin, Unique: true},
	} {
		isWrong(t, what, s)
	}
}

// P10.2: binds are numbered from 0 on in the order in which they are shown.
func TestRightBinds(t *testing.T) {
	four := func(n ...int64) []api.Stmt {
		e := func(i int) api.Expr { return bind(n[i]) }
		return []api.Stmt{
			tell(e(0), e(1), e(2), e(3)),
			tell(op("+", op("-", e(0), e(1)), op("*", e(2), e(3)))),
			tell(in(0, e(0), e(1), call("f", 0, e(2), cast(e(3), "int")))),
			choose(api.Select{Items: items(e(0)), From: []api.Source{{Table: "t"}, {Table: "u", On: list1(e(1))}, {Table: "v", On: list1(e(2))}}, Where: list1(e(3))}),
			choose(api.Select{Items: items(a), Where: list1(e(0)), Group: list1(e(1)), Having: list1(e(2)), Order: []api.Key{{Expr: e(3)}}}),
			choose(api.Select{Items: items(a), Group: list1(e(0)), Order: []api.Key{{Expr: e(1)}}, Limit: list1(e(2)), Offset: list1(e(3))}),
			{Kind: api.SInsert, Table: "t", Rows: [][]api.Expr{{e(0), e(1)}, {e(2)}, {e(3)}}},
			{Kind: api.SInsert, Table: "t", Query: []api.Select{{Items: items(e(0)), Where: list1(op("+", e(1), is(1, e(2)))), Limit: list1(e(3))}}},
			{Kind: api.SUpdate, Table: "t", Names: []string{"a", "b"}, Exprs: list1(op("-", e(0)), e(1)), Where: list1(op("and", e(2), e(3)))},
			{Kind: api.SDelete, Table: "t", Where: list1(op("or", e(0), in(1, e(1), e(2), e(3))))},
		}
	}
	for _, s := range four(0, 1, 2, 3) {
		isRight(t, "rising", s)
	}
	for _, n := range [][]int64{{1, 2, 3, 4}, {0, 0, 0, 0}, {0, 2, 1, 3}, {1, 0, 2, 3}, {0, 1, 3, 2}, {3, 2, 1, 0}, {0, 1, 2, 4}, {0, 1, 2, 2}, {0, 0, 1, 2}, {0, 1, 1, 2}, {-1, 0, 1, 2}, {0, 1, 2, -1}, {0, 1, 2, 1 << 32}} {
		for _, s := range four(n...) {
			isWrong(t, "binds", s)
		}
	}
}

// P10.2: as deep as may be, and as many parts; what stands in itself is too deep.
func TestRightMuch(t *testing.T) {
	for _, make := range []func(e api.Expr) api.Expr{
		func(e api.Expr) api.Expr { return op("-", e) },
		func(e api.Expr) api.Expr { return op("+", one, e) },
		func(e api.Expr) api.Expr { return in(0, one, two, e) },
		func(e api.Expr) api.Expr { return call("f", 0, one, two, e) },
		func(e api.Expr) api.Expr { return cast(is(1, e), "int") },
	} {
		step := partsDeep(make(a)) - 1
		for where, s := range statementsOf(nested(a, (api.MaxNest-3)/step, make)) {
			isRight(t, "deep "+where, s)
		}
		for where, s := range statementsOf(nested(a, api.MaxNest/step+1, make)) {
			isWrong(t, "too deep "+where, s)
		}
	}
	isRight(t, "as deep as may be", tell(nested(a, api.MaxNest-1, func(e api.Expr) api.Expr { return op("-", e) })))
	isWrong(t, "deeper", tell(nested(a, api.MaxNest, func(e api.Expr) api.Expr { return op("-", e) })))

	for _, more := range []int{-1, 0, 1, 2, 100000} {
		n := api.MaxParts + more
		for what, s := range map[string]api.Stmt{
			"kids":     tell(call("f", 0, many(n-2, one)...)),
			"rows":     {Kind: api.SInsert, Table: "t", Rows: slices.Repeat([][]api.Expr{{one}}, (n+1)/2)},
			"a row":    {Kind: api.SInsert, Table: "t", Rows: [][]api.Expr{many(n-1, one)}},
			"names":    {Kind: api.SInsert, Table: "t", Names: slices.Repeat([]string{"a"}, n-2), Rows: [][]api.Expr{{one}}},
			"set":      {Kind: api.SUpdate, Table: "t", Names: slices.Repeat([]string{"a"}, (n+1)/2), Exprs: many((n+1)/2, one)},
			"columns":  {Kind: api.STable, Table: "t", Cols: slices.Repeat([]api.Col{{Name: "a"}}, n)},
			"keys":     {Kind: api.SIndex, Name: "i", Table: "t", Keys: slices.Repeat([]api.KeyCol{{Name: "a"}}, n)},
			"items":    tell(many((n+1)/2, one)...),
			"stars":    tell(many((n+1)/2, star)...),
			"sources":  choose(api.Select{Items: items(one), From: slices.Repeat([]api.Source{{Table: "t", As: "u"}}, n-2)}),
			"groups":   choose(api.Select{Items: items(one), Group: many(n-2, one)}),
			"sorted":   choose(api.Select{Items: items(one), Order: slices.Repeat([]api.Key{{Expr: one}}, (n-1)/2)}),
			"all such": choose(api.Select{Items: items(one, star), From: []api.Source{{Table: "t"}, {Table: "u", On: list1(one)}}, Where: list1(one), Group: list1(one), Having: list1(one), Order: []api.Key{{Expr: one}}, Limit: list1(one), Offset: list1(call("f", 0, many(n-15, one)...))}),
		} {
			if parts, _ := partsAndDepth(reflect.ValueOf(s)); parts <= api.MaxParts {
				isRight(t, what, s)
			} else {
				isWrong(t, what, s)
			}
		}
	}
}

// partsDeep is how deep an expression is.
func partsDeep(e api.Expr) int {
	_, deep := partsAndDepth(reflect.ValueOf(e))
	return deep
}

// R1, P10.2: what stands in itself, what is there more often than could be counted, what is long.
func TestRightEnds(t *testing.T) {
	round := op("+", one, one)
	round.Kids[1] = round
	loop := call("f", 0, one)
	loop.Kids[0].Kind, loop.Kids[0].S, loop.Kids[0].N = api.ECall, "f", 0
	loop.Kids[0].Kids = loop.Kids
	wide := nested(one, 200, func(e api.Expr) api.Expr { return op("+", e, e) })
	wider := nested(one, 60, func(e api.Expr) api.Expr { return call("f", 0, many(100, e)...) })
	for _, e := range []api.Expr{round, loop, wide, wider, nested(one, 1<<16, func(e api.Expr) api.Expr { return op("-", e) }), nested(one, 63, func(e api.Expr) api.Expr { return op("+", e, e) })} {
		for where, s := range statementsOf(e) {
			isWrong(t, where, s)
		}
	}
	long := strings.Repeat("a", 1<<24)
	isWrong(t, "a long name", tell(name(long)))
	isWrong(t, "a long table's name", api.Stmt{Kind: api.SDropT, Table: long})
	isWrong(t, "a long sign", tell(op(long, a, b)))
	isRight(t, "a long text", tell(text(long)))
	isRight(t, "long texts", tell(call("f", 0, many(1900, blob(long))...)))
	isRight(t, "a name as long as may be", api.Stmt{Kind: api.SDropT, Table: long[:api.MaxText]})
	isWrong(t, "a name longer than may be", api.Stmt{Kind: api.SDropT, Table: long[:api.MaxText+1]})
}
