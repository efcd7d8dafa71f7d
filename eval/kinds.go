package eval

import (
	"cardindex/api"
	"cardindex/value"
)

// teller tells the value of an expression that may be, of the values of its kids.
type teller func(e api.Expr, kids []api.Value) (api.Value, api.Errno)

// tellers tell what each kind comes to, where it is computed of x.
func tellers(x api.Env) map[api.ExprKind]teller {
	return map[api.ExprKind]teller{
		api.ENull:  plain(func(api.Expr) api.Value { return api.Value{} }),
		api.EInt:   plain(func(e api.Expr) api.Value { return api.Value{Kind: api.VInt, N: e.N} }),
		api.EText:  plain(func(e api.Expr) api.Value { return api.Value{Kind: api.VText, S: e.S} }),
		api.EBlob:  plain(func(e api.Expr) api.Value { return api.Value{Kind: api.VBlob, S: e.S} }),
		api.EBind:  plain(func(e api.Expr) api.Value { return at(x.Binds, e.N) }),
		api.EKey:   plain(func(e api.Expr) api.Value { return at(x.Keys, e.N) }),
		api.ETotal: plain(func(e api.Expr) api.Value { return at(x.Totals, e.N) }),
		api.EThis:  plain(func(e api.Expr) api.Value { return at(at(x.Rows, int64(e.A)), e.N) }),
		api.EOp:    ofSign,
		api.EIs: func(e api.Expr, kids []api.Value) (api.Value, api.Errno) {
			return flag((kids[0].Kind == api.VNull) == (e.N == 1)), api.OK
		},
		api.EIn: among,
		api.ECall: func(e api.Expr, kids []api.Value) (api.Value, api.Errno) {
			return value.Call(e.S, kids)
		},
		api.ECast: func(e api.Expr, kids []api.Value) (api.Value, api.Errno) {
			return value.Cast(e.S, kids[0])
		},
	}
}

// plain tells what an expression says by itself: there is no error of that.
func plain(tell func(e api.Expr) api.Value) teller {
	return func(e api.Expr, _ []api.Value) (api.Value, api.Errno) {
		return tell(e), api.OK
	}
}

// at is what stands at a place of a list; nothing (of values NULL, of rows none), where there is no such place.
func at[T any](list []T, n int64) T {
	if n < 0 || n >= int64(len(list)) {
		var none T
		return none
	}
	return list[n]
}

// ofSign is what a sign makes of one kid, or of two.
func ofSign(e api.Expr, kids []api.Value) (api.Value, api.Errno) {
	if len(kids) == 1 {
		return value.One(e.S, kids[0])
	}
	return value.Op(e.S, kids[0], kids[1])
}

// among tells whether the first kid is one of the others, or, with N 1, none of them.
func among(e api.Expr, kids []api.Value) (api.Value, api.Errno) {
	told := flag(false)
	for _, other := range kids[1:] {
		same, err := value.Op("=", kids[0], other)
		if err != api.OK {
			return api.Value{}, err
		}
		// "or" is just this: 1, if one is 1, else NULL, if one is NULL. It has no error of 0, 1 and NULL.
		told, _ = value.Op("or", told, same)
	}
	if e.N == 1 {
		return value.One("not", told)
	}
	return told, api.OK
}

// flag is 1 or 0.
func flag(yes bool) api.Value {
	if yes {
		return api.Value{Kind: api.VInt, N: 1}
	}
	return api.Value{Kind: api.VInt}
}
