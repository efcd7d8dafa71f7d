package record

import (
	"strings"

	"cardindex/api"
)

// With what the part of a value begins: the kinds' order is that of these bytes.
const (
	nullPart = 1
	intPart  = 2
	textPart = 3
	blobPart = 4
)

const (
	intBytes = 8
	topBit   = 1 << 63 // turned, it has numbers below 0 come ahead of the others
	zero     = 0       // a byte of a string behind which another one tells what it is
	within   = 255     // behind a zero that belongs to the string
	end      = 0       // behind the zero that ends it
)

// Key is the key of a row by flags.
func Key(row []api.Value, desc []bool) ([]byte, api.Errno) {
	if len(row) > api.MaxCols {
		return nil, api.ErrLong
	}
	if !allRight(row) || len(desc) != len(row) {
		return nil, api.ErrArg
	}
	size := 0
	for _, v := range row {
		size += partLen(v)
	}
	if size > api.MaxRow {
		return nil, api.ErrLong
	}
	out := make([]byte, 0, size)
	for i, v := range row {
		turn := turnOf(desc[i])
		putPart(v, func(c byte) { out = append(out, c^turn) })
	}
	return out, api.OK
}

// Unkey is the row whose key by these flags b is.
func Unkey(b []byte, desc []bool) ([]api.Value, api.Errno) {
	if len(desc) > api.MaxCols || len(b) > api.MaxRow {
		return nil, api.ErrBytes
	}
	row := make([]api.Value, 0, len(desc))
	rest := b
	for _, falling := range desc {
		v, behind, ok := cutPart(rest, turnOf(falling))
		if !ok {
			return nil, api.ErrBytes
		}
		row = append(row, v)
		rest = behind
	}
	if len(rest) > 0 {
		return nil, api.ErrBytes
	}
	return row, api.OK
}

// turnOf is the bits of each byte that are turned in a part with that flag.
func turnOf(falling bool) byte {
	if falling {
		return 255
	}
	return 0
}

// partLen is how many bytes the part of a right value has.
func partLen(v api.Value) int {
	switch v.Kind {
	case api.VInt:
		return 1 + intBytes
	case api.VText, api.VBlob:
		return 1 + len(v.S) + strings.Count(v.S, "\x00") + 2
	}
	return 1
}

// putPart has put put the part of a right value.
func putPart(v api.Value, put func(byte)) {
	switch v.Kind {
	case api.VInt:
		put(intPart)
		putNumber(uint64(v.N)^topBit, intBytes, put)
	case api.VText:
		put(textPart)
		putString(v.S, put)
	case api.VBlob:
		put(blobPart)
		putString(v.S, put)
	default:
		put(nullPart)
	}
}

// putString has put put s, and its end.
func putString(s string, put func(byte)) {
	for i := range len(s) {
		put(s[i])
		if s[i] == zero {
			put(within)
		}
	}
	put(zero)
	put(end)
}

// cutPart is the value whose part b begins with, and what is behind that part.
func cutPart(b []byte, turn byte) (api.Value, []byte, bool) {
	if len(b) == 0 {
		return api.Value{}, nil, false
	}
	rest := b[1:]
	switch b[0] ^ turn {
	case nullPart:
		return api.Value{}, rest, true
	case intPart:
		return cutInt(rest, turn)
	case textPart:
		return cutString(rest, turn, api.VText)
	case blobPart:
		return cutString(rest, turn, api.VBlob)
	}
	return api.Value{}, nil, false
}

// cutInt is the int whose eight bytes b begins with, and what is behind them.
func cutInt(b []byte, turn byte) (api.Value, []byte, bool) {
	if len(b) < intBytes {
		return api.Value{}, nil, false
	}
	var n uint64
	for _, c := range b[:intBytes] {
		n = n<<8 | uint64(c^turn)
	}
	return api.Value{Kind: api.VInt, N: int64(n ^ topBit)}, b[intBytes:], true
}

// cutString is the text or blob whose bytes b begins with, and what is behind its end.
func cutString(b []byte, turn byte, kind api.Kind) (api.Value, []byte, bool) {
	var s []byte
	for i := 0; i < len(b) && len(s) <= api.MaxValue; i++ {
		c := b[i] ^ turn
		if c != zero {
			s = append(s, c)
			continue
		}
		i++
		if i == len(b) {
			break
		}
		switch b[i] ^ turn {
		case within:
			s = append(s, zero)
		case end:
			return api.Value{Kind: kind, S: string(s)}, b[i+1:], true
		default:
			return api.Value{}, nil, false
		}
	}
	return api.Value{}, nil, false
}
