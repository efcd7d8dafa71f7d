package words

import (
	"encoding/hex"
	"math/big"
	"regexp"
	"slices"
	"strings"
	"testing"

	"cardindex/api"
)

// some_test.go: what the tests are made of; a twin of Next, that asks patterns in place of bytes.

// keys is all keys, as the chapter lists them.
func keys() []string {
	return strings.Fields("and as asc begin between by cast commit create delete desc distinct drop from group having in index insert int into is join like limit not null offset on or order rollback select set table text unique update values where")
}

// signs is all signs, as the chapter lists them.
func signs() []string {
	return strings.Fields("|| <> <= >= = < > + - * / % ( ) , . ; ?")
}

var (
	overPattern = regexp.MustCompile(`^([\t\n\r ]|--[^\n]*)*`)
	blobPattern = regexp.MustCompile(`^[xX]'(([0-9a-fA-F]{2})*)'`)
	textPattern = regexp.MustCompile(`^'(([^']|'')*)'`)
	intPattern  = regexp.MustCompile(`^[0-9]+`)
	namePattern = regexp.MustCompile(`^[A-Za-z_][A-Za-z0-9_]*`)
	signPattern = regexp.MustCompile(`^(\|\||<>|<=|>=|[=<>+*/%(),.;?-])`)
)

// twin is what Next of a text that is not too long is, said in another way.
func twin(text string, at int) (api.Word, api.Fault) {
	if at < 0 || at > len(text) {
		return api.Word{}, api.Fault{Err: api.ErrArg}
	}
	at += len(overPattern.FindString(text[at:]))
	w, size := twinToken(text[at:])
	if w.Kind == 0 {
		return w, api.Fault{Err: api.ErrToken, At: at}
	}
	w.At, w.End = at, at+size
	return w, api.Fault{}
}

// twinToken is what s begins with, and how many bytes that has.
func twinToken(s string) (api.Word, int) {
	if s == "" {
		return api.Word{Kind: api.WEnd}, 0
	}
	if strings.HasPrefix(s, "x'") || strings.HasPrefix(s, "X'") {
		found := blobPattern.FindStringSubmatch(s)
		if found == nil {
			return api.Word{}, 0
		}
		told, _ := hex.DecodeString(found[1])
		return api.Word{Kind: api.WBlob, S: string(told)}, len(found[0])
	}
	if found := textPattern.FindStringSubmatch(s); found != nil {
		if strings.HasPrefix(s[len(found[0]):], "'") {
			return api.Word{}, 0 // that quote is the second of two: the text goes on, and has no end
		}
		return api.Word{Kind: api.WText, S: strings.ReplaceAll(found[1], "''", "'")}, len(found[0])
	}
	if found := intPattern.FindString(s); found != "" {
		n, _ := new(big.Int).SetString(found, 10)
		if !n.IsInt64() {
			return api.Word{}, 0
		}
		return api.Word{Kind: api.WInt, N: n.Int64()}, len(found)
	}
	if found := namePattern.FindString(s); found != "" {
		w := api.Word{Kind: api.WName, S: strings.ToLower(found)}
		if slices.Contains(keys(), w.S) {
			w.Kind = api.WKey
		}
		return w, len(found)
	}
	if found := signPattern.FindString(s); found != "" {
		return api.Word{Kind: api.WSign, S: found}, len(found)
	}
	return api.Word{}, 0
}

// hold holds Next against its twin, at all places of a text, and a bit past it.
func hold(t *testing.T, text string) {
	t.Helper()
	for at := -1; at <= len(text)+1; at++ {
		holdAt(t, text, at)
	}
}

// holdAt holds Next against its twin at one place.
func holdAt(t *testing.T, text string, at int) {
	t.Helper()
	want, fault := twin(text, at)
	next(t, text, at, want, fault)
}

// next: Next tells that, as often as it is asked.
func next(t *testing.T, text string, at int, want api.Word, fault api.Fault) {
	t.Helper()
	for range 2 {
		if w, f := Next(text, at); w != want || f != fault {
			t.Fatalf("Next(%q, %d): %s, fault %v, not %s, fault %v", short(text), at, shown(w), f, shown(want), fault)
		}
	}
}

// is: a text begins with that token, which has all its bytes but those of behind.
func is(t *testing.T, text, behind string, want api.Word) {
	t.Helper()
	want.End = len(text)
	next(t, text+behind, 0, want, api.Fault{})
}

// refused: no token stands at a place of a text.
func refused(t *testing.T, text string, at int) {
	t.Helper()
	next(t, text, at, api.Word{}, api.Fault{Err: api.ErrToken, At: at})
}

func intWord(n int64) api.Word      { return api.Word{Kind: api.WInt, N: n} }
func nameWord(s string) api.Word    { return api.Word{Kind: api.WName, S: s} }
func keyWord(s string) api.Word     { return api.Word{Kind: api.WKey, S: s} }
func textWord(s string) api.Word    { return api.Word{Kind: api.WText, S: s} }
func blobWord(s string) api.Word    { return api.Word{Kind: api.WBlob, S: s} }
func signWord(s string) api.Word    { return api.Word{Kind: api.WSign, S: s} }
func xs(n int) string               { return strings.Repeat("x", n) }
func allBytes() string              { return string(bytesUpTo(256)) }
func isOneOf(c byte, s string) bool { return strings.Contains(s, string([]byte{c})) }

// bytesUpTo is the bytes from 0 on, below n.
func bytesUpTo(n int) []byte {
	b := make([]byte, n)
	for i := range b {
		b[i] = byte(i)
	}
	return b
}

// someStrings: of each byte, with quotes at all ends, and what looks like tokens.
func someStrings() []string {
	l := []string{"", "'", "''", "'''", "a", "it's", "'a", "a'", "'a'", "''a''", "a''b", "a'b'c", "--", "-- a\nb", "\n", "\x00", "\x00\xff", "x'00'", "X''", "é", "\xff\xfe", "select", "12", "Ab", "||", ";", " ", "\\'", "\"", allBytes(), xs(1000), strings.Repeat("'", 1001)}
	for _, c := range bytesUpTo(256) {
		l = append(l, string([]byte{c}), string([]byte{c, c}), string([]byte{'\'', c}), string([]byte{c, '\''}))
	}
	return l
}

// short is a text as it is told in a test's message.
func short(s string) string {
	return s[:min(len(s), 60)]
}

// shown is a token as it is told in a test's message.
func shown(w api.Word) string {
	return "kind " + big.NewInt(int64(w.Kind)).String() + " '" + short(w.S) + "' " + big.NewInt(w.N).String() + " from " + big.NewInt(int64(w.At)).String() + " to " + big.NewInt(int64(w.End)).String()
}

// chance tells numbers that look like none in particular, always the same.
type chance uint64

func (c *chance) below(n int) int {
	*c = *c*6364136223846793005 + 1442695040888963407
	return int(uint64(*c) >> 33 % uint64(n))
}
