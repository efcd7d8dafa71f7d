package value

import "cardindex/api"

// Op is what the sign makes of a and b.
func Op(sign string, a, b api.Value) (api.Value, api.Errno) {
	if !Right(a) || !Right(b) {
		return api.Value{}, api.ErrArg
	}
	switch sign {
	case "and":
		return and(a, b), api.OK
	case "or":
		return or(a, b), api.OK
	case "+", "-", "*", "/", "%", "||", "=", "<>", "<", "<=", ">", ">=", "like":
		if isNull(a) || isNull(b) {
			return api.Value{}, api.OK
		}
		return ofTwo(sign, a, b)
	}
	return api.Value{}, api.ErrArg
}

// One is what the sign makes of a.
func One(sign string, a api.Value) (api.Value, api.Errno) {
	if !Right(a) || sign != "-" && sign != "not" {
		return api.Value{}, api.ErrArg
	}
	if isNull(a) {
		return api.Value{}, api.OK
	}
	if sign == "not" {
		isTrue, _ := Truth(a)
		return flagValue(!isTrue), api.OK
	}
	return toInt(subtract(0, Int(a)))
}

func and(a, b api.Value) api.Value {
	aTrue, aKnown := Truth(a)
	bTrue, bKnown := Truth(b)
	if aKnown && !aTrue || bKnown && !bTrue {
		return flagValue(false)
	}
	if !aKnown || !bKnown {
		return api.Value{}
	}
	return flagValue(true)
}

func or(a, b api.Value) api.Value {
	aTrue, aKnown := Truth(a)
	bTrue, bKnown := Truth(b)
	if aTrue || bTrue { // what is not known is not told to be true
		return flagValue(true)
	}
	if !aKnown || !bKnown {
		return api.Value{}
	}
	return flagValue(false)
}

// ofTwo is what a sign other than and, or makes of two that are not NULL.
func ofTwo(sign string, a, b api.Value) (api.Value, api.Errno) {
	switch sign {
	case "+":
		return toInt(add(Int(a), Int(b)))
	case "-":
		return toInt(subtract(Int(a), Int(b)))
	case "*":
		return toInt(multiply(Int(a), Int(b)))
	case "/":
		return quotient(Int(a), Int(b))
	case "%":
		return rest(Int(a), Int(b)), api.OK
	case "||":
		return joined(Text(a), Text(b))
	case "like":
		return alike(Text(a), Text(b))
	}
	return flagValue(holds(sign, Compare(a, b))), api.OK
}

// toInt is n as a value, or an error, unless it is within 64 bits.
func toInt(n int64, within bool) (api.Value, api.Errno) {
	if !within {
		return api.Value{}, api.ErrOver
	}
	return intValue(n), api.OK
}

func quotient(a, b int64) (api.Value, api.Errno) {
	if b == 0 {
		return api.Value{}, api.OK
	}
	if isTooFar(a, b) {
		return api.Value{}, api.ErrOver
	}
	return intValue(a / b), api.OK
}

func rest(a, b int64) api.Value {
	if b == 0 {
		return api.Value{}
	}
	return intValue(a % b)
}

// joined is s, and behind it t.
func joined(s, t string) (api.Value, api.Errno) {
	if len(s)+len(t) > api.MaxValue {
		return api.Value{}, api.ErrLong
	}
	return textValue(s + t), api.OK
}

func alike(s, pattern string) (api.Value, api.Errno) {
	if len(pattern) > api.MaxLike {
		return api.Value{}, api.ErrLong
	}
	return flagValue(Like(s, pattern)), api.OK
}

// holds: does the sign hold of two that compare so?
func holds(sign string, compared int) bool {
	switch sign {
	case "=":
		return compared == 0
	case "<>":
		return compared != 0
	case "<":
		return compared < 0
	case "<=":
		return compared <= 0
	case ">":
		return compared > 0
	}
	return compared >= 0
}
