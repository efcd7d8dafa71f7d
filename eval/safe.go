package eval

import (
	"maps"
	"slices"

	"cardindex/api"
	"cardindex/value"
)

// Safe: has e no error, of whatever right values it is computed?
func Safe(e api.Expr) bool {
	if !mayBe(e) || !isSafe(e) {
		return false
	}
	// Those of a kind that needs none are asked, too: they are computed, so their errors are e's.
	return !slices.ContainsFunc(e.Kids, func(kid api.Expr) bool { return !Safe(kid) })
}

// isSafe: is e, that may be, safe if its kids are?
func isSafe(e api.Expr) bool {
	switch e.Kind {
	case api.EOp:
		return isSafeSign(e.S, len(e.Kids))
	case api.ECall:
		return isSafeCall(e.S, len(e.Kids))
	}
	return e.Kind != api.ECast
}

// isSafeSign: has a sign of one kid, or of two, no error?
func isSafeSign(sign string, kids int) bool {
	switch sign {
	case "=", "<>", "<", "<=", ">", ">=", "and", "or":
		return kids == 2
	case "not":
		return kids == 1
	}
	return false
}

// isSafeCall: is there such a function, that has no error?
func isSafeCall(name string, kids int) bool {
	switch name {
	case "typeof", "ifnull", "coalesce":
		return value.Known(name, kids)
	}
	return false
}

// Sources is the sources that e tells of, rising.
func Sources(e api.Expr) []int {
	told := map[int]struct{}{}
	var look func(e api.Expr)
	look = func(e api.Expr) {
		if e.Kind == api.EThis {
			told[e.A] = struct{}{}
		}
		for _, kid := range e.Kids {
			look(kid)
		}
	}
	look(e)
	return slices.Sorted(maps.Keys(told))
}
