package parse

import (
	"math"
	"math/bits"
	"slices"

	"cardindex/api"
	"cardindex/words"
)

// isName: is s a name?
func isName(s string) bool {
	w, _ := words.Next(s, 0)
	return w == api.Word{Kind: api.WName, S: s, End: len(s)}
}

// isNameOrNone: is s a name, or nothing?
func isNameOrNone(s string) bool {
	return s == "" || isName(s)
}

// among tells which texts are one of these.
func among(texts ...string) func(s string) bool {
	return func(s string) bool { return slices.Contains(texts, s) }
}

// shape is what a kind of expression has: what its S and T may be, how much its N at most, and whether its kids are as many as it may have.
type shape struct {
	s, t func(s string) bool
	n    int64
	kids func(e api.Expr) bool
}

// shapes is what the kinds of expressions have.
func shapes() map[api.ExprKind]shape {
	nothing := among("")
	anything := func(string) bool { return true }
	return map[api.ExprKind]shape{
		api.ENull: {nothing, nothing, 0, kids(0, 0)},
		api.EInt:  {nothing, nothing, math.MaxInt64, kids(0, 0)},
		api.EText: {anything, nothing, 0, kids(0, 0)},
		api.EBlob: {anything, nothing, 0, kids(0, 0)},
		api.EBind: {nothing, nothing, math.MaxInt64, kids(0, 0)},
		api.EName: {isName, isNameOrNone, 0, kids(0, 0)},
		api.EOp:   {anything, nothing, 0, kidsOfSign},
		api.EIs:   {nothing, nothing, 1, kids(1, 1)},
		api.EIn:   {nothing, nothing, 1, kids(2, math.MaxInt)},
		api.ECall: {isName, nothing, 2, kidsOfCall},
		api.ECast: {among("int", "text"), nothing, 0, kids(1, 1)},
		api.EStar: {nothing, isNameOrNone, 0, kids(0, 0)},
	}
}

// kids tells which expressions have from least to most kids.
func kids(least, most int) func(e api.Expr) bool {
	return func(e api.Expr) bool { return least <= len(e.Kids) && len(e.Kids) <= most }
}

// kidsOfSign: has an operation a sign that is one of so many?
func kidsOfSign(e api.Expr) bool {
	switch len(e.Kids) {
	case 1:
		return among("-", "not")(e.S)
	case 2:
		return among("+", "-", "*", "/", "%", "||", "=", "<>", "<", "<=", ">", ">=", "and", "or", "like")(e.S)
	}
	return false
}

// kidsOfCall: has a call as many kids as its N lets it have?
func kidsOfCall(e api.Expr) bool {
	switch e.N {
	case 1:
		return len(e.Kids) == 1
	case 2:
		return len(e.Kids) == 0
	}
	return true
}

// fields is which of its fields a statement has.
type fields uint16

const (
	hasTable fields = 1 << iota
	hasName
	hasNames
	hasRows
	hasExprs
	hasWhere
	hasQuery
	hasCols
	hasKeys
	hasUnique
)

// given is which fields of a statement are not empty.
func given(s api.Stmt) fields {
	var g fields
	for i, there := range [...]bool{s.Table != "", s.Name != "", len(s.Names) > 0, len(s.Rows) > 0, len(s.Exprs) > 0,
		len(s.Where) > 0, len(s.Query) > 0, len(s.Cols) > 0, len(s.Keys) > 0, s.Unique} {
		if there {
			g |= 1 << i
		}
	}
	return g
}

// need is what a kind of statement has: all of some fields, of others what it likes, and of others one.
type need struct {
	all, some, one fields
}

// needs is what the kinds of statements have.
func needs() map[api.StmtKind]need {
	return map[api.StmtKind]need{
		api.SSelect:   {all: hasQuery},
		api.SInsert:   {all: hasTable, some: hasNames, one: hasRows | hasQuery},
		api.SUpdate:   {all: hasTable | hasNames | hasExprs, some: hasWhere},
		api.SDelete:   {all: hasTable, some: hasWhere},
		api.STable:    {all: hasTable | hasCols},
		api.SIndex:    {all: hasTable | hasName | hasKeys, some: hasUnique},
		api.SDropT:    {all: hasTable},
		api.SDropI:    {all: hasName},
		api.SBegin:    {},
		api.SCommit:   {},
		api.SRollback: {},
	}
}

// hasItsFields: has a statement what its kind has, and nothing else?
func hasItsFields(s api.Stmt) bool {
	n, known := needs()[s.Kind]
	g := given(s)
	return known && g&n.all == n.all && g&^(n.all|n.some|n.one) == 0 &&
		(n.one == 0 || bits.OnesCount16(uint16(g&n.one)) == 1)
}
