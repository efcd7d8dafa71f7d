package value

import (
	"slices"
	"strings"

	"cardindex/api"
)

// function is what is called by a name: with how many arguments, and what it does with them.
type function struct {
	least, most int
	takesNull   bool // if not, it is NULL where one argument is
	do          func(args []api.Value) (api.Value, api.Errno)
}

// Known: is there a function of that name with so many arguments?
func Known(name string, args int) bool {
	_, known := find(name, args)
	return known
}

// Call is what the function of that name tells of the arguments.
func Call(name string, args []api.Value) (api.Value, api.Errno) {
	f, known := find(name, len(args))
	if !known {
		return api.Value{}, api.ErrFunc
	}
	if slices.ContainsFunc(args, func(v api.Value) bool { return !Right(v) }) {
		return api.Value{}, api.ErrArg
	}
	if !f.takesNull && slices.ContainsFunc(args, isNull) {
		return api.Value{}, api.OK
	}
	return f.do(args)
}

// find is the function of that name, if it may have so many arguments.
func find(name string, args int) (function, bool) {
	f, there := functions()[name]
	if !there || args < f.least || args > f.most {
		return function{}, false
	}
	return f, true
}

// functions is all functions by their names; what they do is done with as many arguments as they take, all of them right.
func functions() map[string]function {
	return map[string]function{
		"length": {least: 1, most: 1, do: func(args []api.Value) (api.Value, api.Errno) {
			return intValue(int64(len(Text(args[0])))), api.OK
		}},
		"upper": {least: 1, most: 1, do: byteByByte(large)},
		"lower": {least: 1, most: 1, do: byteByByte(small)},
		"abs": {least: 1, most: 1, do: func(args []api.Value) (api.Value, api.Errno) {
			return toInt(absolute(Int(args[0])))
		}},
		"typeof": {least: 1, most: 1, takesNull: true, do: func(args []api.Value) (api.Value, api.Errno) {
			return textValue(kindName(args[0].Kind)), api.OK
		}},
		"hex": {least: 1, most: 1, takesNull: true, do: func(args []api.Value) (api.Value, api.Errno) {
			return hex(Text(args[0]))
		}},
		"ifnull":   {least: 2, most: 2, takesNull: true, do: firstNotNull()},
		"coalesce": {least: 2, most: api.MaxArgs, takesNull: true, do: firstNotNull()},
		"instr": {least: 2, most: 2, do: func(args []api.Value) (api.Value, api.Errno) {
			return intValue(int64(strings.Index(Text(args[0]), Text(args[1])) + 1)), api.OK
		}},
		"substr": {least: 2, most: 3, do: func(args []api.Value) (api.Value, api.Errno) {
			return substr(args[0], Int(args[1]), args[2:]), api.OK
		}},
	}
}

// byteByByte is what a function does that turns each byte of a Text.
func byteByByte(turn func(byte) byte) func([]api.Value) (api.Value, api.Errno) {
	return func(args []api.Value) (api.Value, api.Errno) {
		turned := []byte(Text(args[0]))
		for i, c := range turned {
			turned[i] = turn(c)
		}
		return textValue(string(turned)), api.OK
	}
}

// firstNotNull is what coalesce and ifnull do.
func firstNotNull() func([]api.Value) (api.Value, api.Errno) {
	return func(args []api.Value) (api.Value, api.Errno) {
		for _, v := range args {
			if !isNull(v) {
				return v, api.OK
			}
		}
		return api.Value{}, api.OK
	}
}

// kindName is what typeof calls the kind of a right value.
func kindName(k api.Kind) string {
	switch k {
	case api.VInt:
		return "integer"
	case api.VText:
		return "text"
	case api.VBlob:
		return "blob"
	}
	return "null"
}

func hex(s string) (api.Value, api.Errno) {
	if 2*len(s) > api.MaxValue {
		return api.Value{}, api.ErrLong
	}
	return textValue(hexDigits(s)), api.OK
}

// substr is the bytes of x from the place f on; of these as many as count tells, if it tells anything.
func substr(x api.Value, f int64, count []api.Value) api.Value {
	s := Text(x)
	end := int64(len(s)) + 1 // the place behind the last one
	from, below := f, end
	if f < 0 {
		from = end + f
	}
	if len(count) > 0 {
		from, below = stretch(from, Int(count[0]))
	}
	from = min(max(from, 1), end)
	below = min(max(below, from), end)
	cut := s[from-1 : below-1]
	if x.Kind == api.VBlob {
		return api.Value{Kind: api.VBlob, S: cut}
	}
	return textValue(cut)
}

// stretch is n places from p on, or, if n is below 0, so many ahead of p: where they begin, and which place they are below.
func stretch(p, n int64) (int64, int64) {
	other := addWithin(p, n)
	return min(p, other), max(p, other)
}
