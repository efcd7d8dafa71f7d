package words

import "strings"

const (
	quote     = "'"
	lineEnd   = "\n"
	remark    = "--"
	blanks    = "\t\n\r "
	hexDigits = "0123456789abcdef"
)

// run is how many bytes s begins with of which each belongs.
func run(s string, belongs func(c byte) bool) int {
	n := 0
	for n < len(s) && belongs(s[n]) {
		n++
	}
	return n
}

// among tells the bytes that are in a set.
func among(set string) func(c byte) bool {
	return func(c byte) bool { return strings.IndexByte(set, c) >= 0 }
}

// but tells the bytes that are not in a set.
func but(set string) func(c byte) bool {
	return func(c byte) bool { return strings.IndexByte(set, c) < 0 }
}

// passedOver is how many bytes s begins with that say nothing.
func passedOver(s string) int {
	at := 0
	for {
		at += run(s[at:], among(blanks))
		if !strings.HasPrefix(s[at:], remark) {
			return at
		}
		at += run(s[at:], but(lineEnd))
	}
}

// beginsName: may a name begin with c?
func beginsName(c byte) bool {
	return c == '_' || 'a' <= small(c) && small(c) <= 'z'
}

// isDigit: is c one of an int?
func isDigit(c byte) bool {
	return '0' <= c && c <= '9'
}

// hexDigit is the number that c is as a hexadecimal digit; below 0, if it is none.
func hexDigit(c byte) int {
	return strings.IndexByte(hexDigits, small(c))
}

// small is a letter from A to Z as that from a to z; any other byte as it is.
func small(c byte) byte {
	if 'A' <= c && c <= 'Z' {
		return c - 'A' + 'a'
	}
	return c
}
