package words

import (
	"strconv"
	"strings"

	"cardindex/api"
)

// Each of these is handed what begins with its token, and tells that (but not where), how many bytes it has, and whether there is one.

func token(s string) (api.Word, int, bool) {
	switch {
	case s == "":
		return api.Word{Kind: api.WEnd}, 0, true
	case beginsBlob(s):
		return blob(s)
	case isDigit(s[0]):
		return number(s)
	case beginsName(s[0]):
		return name(s)
	case strings.HasPrefix(s, quote):
		return quoted(s)
	}
	return sign(s)
}

// beginsBlob is asked ahead of names: x may begin one, too.
func beginsBlob(s string) bool {
	return len(s) > 1 && small(s[0]) == 'x' && s[1:2] == quote
}

func blob(s string) (api.Word, int, bool) {
	within := s[len("x"+quote):]
	n := run(within, func(c byte) bool { return hexDigit(c) >= 0 })
	if n%2 != 0 || !strings.HasPrefix(within[n:], quote) {
		return api.Word{}, 0, false
	}
	var bytes strings.Builder
	for i := 0; i < n; i += 2 {
		bytes.WriteByte(byte(16*hexDigit(within[i]) + hexDigit(within[i+1])))
	}
	return api.Word{Kind: api.WBlob, S: bytes.String()}, len("x"+quote) + n + len(quote), true
}

func number(s string) (api.Word, int, bool) {
	size := run(s, isDigit)
	n, err := strconv.ParseInt(s[:size], 10, 64)
	if err != nil {
		return api.Word{}, 0, false
	}
	return api.Word{Kind: api.WInt, N: n}, size, true
}

func name(s string) (api.Word, int, bool) {
	size := run(s, func(c byte) bool { return beginsName(c) || isDigit(c) })
	// Bytes of its own, so that a name shares no memory with the statement.
	told := []byte(s[:size])
	for i, c := range told {
		told[i] = small(c)
	}
	w := api.Word{Kind: api.WName, S: string(told)}
	if isKey(w.S) {
		w.Kind = api.WKey
	}
	return w, size, true
}

func isKey(name string) bool {
	switch name {
	case "and", "as", "asc", "begin", "between", "by", "cast", "commit", "create", "delete", "desc", "distinct", "drop", "from", "group", "having", "in", "index", "insert", "int", "into", "is", "join", "like", "limit", "not", "null", "offset", "on", "or", "order", "rollback", "select", "set", "table", "text", "unique", "update", "values", "where":
		return true
	}
	return false
}

func quoted(s string) (api.Word, int, bool) {
	var bytes strings.Builder
	at := len(quote)
	for {
		n := run(s[at:], but(quote))
		bytes.WriteString(s[at : at+n])
		at += n
		if at == len(s) {
			return api.Word{}, 0, false
		}
		if !strings.HasPrefix(s[at:], quote+quote) {
			return api.Word{Kind: api.WText, S: bytes.String()}, at + len(quote), true
		}
		bytes.WriteString(quote)
		at += len(quote + quote)
	}
}

func sign(s string) (api.Word, int, bool) {
	for size := min(2, len(s)); size > 0; size-- {
		if isSign(s[:size]) {
			return api.Word{Kind: api.WSign, S: strings.Clone(s[:size])}, size, true
		}
	}
	return api.Word{}, 0, false
}

func isSign(s string) bool {
	switch s {
	case "||", "<>", "<=", ">=", "=", "<", ">", "+", "-", "*", "/", "%", "(", ")", ",", ".", ";", "?":
		return true
	}
	return false
}
