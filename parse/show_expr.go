package parse

import (
	"strconv"

	"cardindex/api"
	"cardindex/words"
)

// bytes shows a text or a blob, by the words' call for it. What has more bytes than a statement is not even put together.
func (w *writer) bytes(s string, show func(string) string) {
	if len(s) > api.MaxText || w.long {
		w.long = true
		return
	}
	w.say(show(s))
}

func (w *writer) expr(e api.Expr) {
	switch e.Kind {
	case api.ENull:
		w.say("null")
	case api.EInt:
		w.say(strconv.FormatInt(e.N, 10))
	case api.EText:
		w.bytes(e.S, words.Quote)
	case api.EBlob:
		w.bytes(e.S, words.Hex)
	case api.EBind:
		w.say("?")
	case api.EName:
		w.say(ofTable(e.T, e.S))
	case api.EStar:
		w.say(ofTable(e.T, "*"))
	case api.ECall:
		w.call(e)
	case api.ECast:
		w.say("cast(")
		w.expr(e.Kids[0])
		w.say("as", e.S, ")")
	default:
		w.operation(e)
	}
}

// ofTable is a column's name, or *, with its table's ahead, if that is told.
func ofTable(table, name string) string {
	if table == "" {
		return name
	}
	return table + "." + name
}

func (w *writer) call(e api.Expr) {
	w.say(e.S + "(")
	w.sayIf(e.N == 1, "distinct")
	w.sayIf(e.N == 2, "*")
	each(w, e.Kids, w.expr)
	w.say(")")
}

// operation shows what stands in parentheses as a kid of its like.
func (w *writer) operation(e api.Expr) {
	first, others := e.Kids[0], e.Kids[1:]
	switch {
	case e.Kind == api.EIs:
		w.kid(first)
		w.say("is")
		w.sayIf(e.N == 0, "not")
		w.say("null")
	case e.Kind == api.EIn:
		w.kid(first)
		w.sayIf(e.N == 1, "not")
		w.say("in")
		enclose(w, others, w.expr)
	case len(others) == 0:
		w.say(e.S)
		w.kid(first)
	default:
		w.kid(first)
		w.say(e.S)
		w.kid(others[0])
	}
}

// kid shows a kid of an operation.
func (w *writer) kid(e api.Expr) {
	switch e.Kind {
	case api.EOp, api.EIs, api.EIn:
		enclose(w, []api.Expr{e}, w.expr)
	default:
		w.expr(e)
	}
}
