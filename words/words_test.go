package words

import (
	"encoding/hex"
	"math"
	"strings"
	"testing"

	"cardindex/api"
)

// words_test.go: P9.1: where Next looks, what it passes over, what it refuses; P9.2; the chapter's examples.

// P9.1: ErrLong of a text of more than 2^16 bytes, whatever it is, and ahead of ErrArg.
func TestTextsThatAreTooLong(t *testing.T) {
	for _, s := range []string{"a", " ", "1", "'", "@", "x'", "\n", "--", "a ", "a,"} {
		text := strings.Repeat(s, api.MaxText/len(s)+1)
		for _, over := range []int{1, len(s)} {
			long := text[:api.MaxText+over]
			for _, at := range []int{math.MinInt, -1, 0, 1, api.MaxText, len(long), len(long) + 1, math.MaxInt} {
				next(t, long, at, api.Word{}, api.Fault{Err: api.ErrLong})
			}
		}
	}
}

// P9.1: a text of 2^16 bytes is none too long: each kind of token may have as many.
func TestTextsThatAreAsLongAsMayBe(t *testing.T) {
	most := api.MaxText
	for text, want := range map[string]api.Word{
		xs(most):                                     nameWord(xs(most)),
		strings.ToUpper(xs(most)):                    nameWord(xs(most)),
		strings.Repeat("0", most-1) + "7":            intWord(7),
		"'" + xs(most-2) + "'":                       textWord(xs(most - 2)),
		strings.Repeat("'", most):                    textWord(strings.Repeat("'", most/2-1)),
		"x'" + strings.Repeat("78", most/2-2) + "0'": {},
		"x'" + strings.Repeat("78", most/2-2) + "'":  blobWord(xs(most/2 - 2)),
	} {
		if len(text) > most || len(text) < most-1 {
			t.Fatal(len(text))
		}
		if want.Kind == 0 {
			refused(t, text, 0)
			continue
		}
		is(t, text, "", want)
	}
	for _, text := range []string{strings.Repeat(" ", most), "--" + strings.Repeat("-", most-2), strings.Repeat("--\n", most/3) + "\n"} {
		next(t, text, 0, api.Word{Kind: api.WEnd, At: most, End: most}, api.Fault{})
	}
	refused(t, strings.Repeat("'", most-1), 0)
	refused(t, strings.Repeat("9", most), 0)
	next(t, strings.Repeat(" ", most-1)+"@", 0, api.Word{}, api.Fault{Err: api.ErrToken, At: most - 1})
	next(t, strings.Repeat(" ", most-1)+"Z", 0, api.Word{Kind: api.WName, S: "z", At: most - 1, End: most}, api.Fault{})
	next(t, xs(most), most, api.Word{Kind: api.WEnd, At: most, End: most}, api.Fault{})
}

// P9.1, R7: ErrArg, at 0, of a place below 0 or past the end.
func TestPlacesThatAreNone(t *testing.T) {
	for _, text := range []string{"", "a", "@", "select a", "'a", "  ", "-- a", "x'00'", xs(api.MaxText)} {
		for _, at := range []int{math.MinInt, math.MinInt32, -api.MaxText, -2, -1, len(text) + 1, len(text) + 2, math.MaxInt32, math.MaxInt} {
			next(t, text, at, api.Word{}, api.Fault{Err: api.ErrArg})
		}
		next(t, text, len(text), api.Word{Kind: api.WEnd, At: len(text), End: len(text)}, api.Fault{})
	}
}

// P9.1: just the bytes 9, 10, 13 and 32 are passed over, ahead of a token and ahead of the end.
func TestBlanks(t *testing.T) {
	for _, c := range bytesUpTo(256) {
		s := string([]byte{c})
		over := c == 9 || c == 10 || c == 13 || c == 32
		w, f := Next(s+"7", 0)
		if told := w == (api.Word{Kind: api.WInt, N: 7, At: 1, End: 2}) && f.Err == api.OK; told != over && !isOneOf(c, "0123456789") {
			t.Errorf("%q ahead of 7: %s, fault %v", s, shown(w), f)
		}
		w, f = Next(s, 0)
		if told := w == (api.Word{Kind: api.WEnd, At: 1, End: 1}) && f.Err == api.OK; told != over {
			t.Errorf("%q alone: %s, fault %v", s, shown(w), f)
		}
		hold(t, s+"a")
		hold(t, "a"+s+"a")
		hold(t, " "+s+" ")
	}
	next(t, "\t\n\r  \r\n\tA ", 0, api.Word{Kind: api.WName, S: "a", At: 8, End: 9}, api.Fault{})
}

// P9.1: from -- up to the line's end all is passed over, whatever it is; nothing but byte 10 ends the line.
func TestRemarks(t *testing.T) {
	end := func(at int) api.Word { return api.Word{Kind: api.WEnd, At: at, End: at} }
	for _, c := range []struct {
		text string
		at   int
		want api.Word
	}{
		{"--", 0, end(2)}, {"-- a", 0, end(4)}, {"--\n", 0, end(3)}, {"--a\n--b\n", 0, end(8)}, {" -- 'a", 0, end(6)}, {"---", 0, end(3)}, {"--x'", 0, end(4)}, {"--@\xff\x00", 0, end(5)},
		{"--a\nb", 0, api.Word{Kind: api.WName, S: "b", At: 4, End: 5}}, {"--a\n\n--b\n c", 0, api.Word{Kind: api.WName, S: "c", At: 10, End: 11}}, {"--\n--\n1", 0, api.Word{Kind: api.WInt, N: 1, At: 6, End: 7}}, {"----\n1", 0, api.Word{Kind: api.WInt, N: 1, At: 5, End: 6}},
		{"--a\rb", 0, end(5)}, {"--a\r\nb", 0, api.Word{Kind: api.WName, S: "b", At: 5, End: 6}}, {"--a\x0bb\x0cc\x85d\u2028e", 0, end(len("--a\x0bb\x0cc\x85d\u2028e"))},
		{"1--2", 0, api.Word{Kind: api.WInt, N: 1, At: 0, End: 1}}, {"1--2", 1, end(4)}, {"a--b\n-c", 1, api.Word{Kind: api.WSign, S: "-", At: 5, End: 6}}, {"a---b", 1, end(5)},
		{"--1", 1, api.Word{Kind: api.WSign, S: "-", At: 1, End: 2}}, {"--1", 2, api.Word{Kind: api.WInt, N: 1, At: 2, End: 3}}, {"- -1", 0, api.Word{Kind: api.WSign, S: "-", At: 0, End: 1}}, {"-\n-", 0, api.Word{Kind: api.WSign, S: "-", At: 0, End: 1}}, {"-", 0, api.Word{Kind: api.WSign, S: "-", At: 0, End: 1}},
		{"'--'", 0, api.Word{Kind: api.WText, S: "--", At: 0, End: 4}}, {"'a--\n'", 0, api.Word{Kind: api.WText, S: "a--\n", At: 0, End: 6}}, {"*--\n*", 1, api.Word{Kind: api.WSign, S: "*", At: 4, End: 5}},
		{"/*a*/", 0, api.Word{Kind: api.WSign, S: "/", At: 0, End: 1}},
	} {
		next(t, c.text, c.at, c.want, api.Fault{})
	}
	next(t, "--a\n@", 0, api.Word{}, api.Fault{Err: api.ErrToken, At: 4})
	next(t, " \t--a\n 'b", 0, api.Word{}, api.Fault{Err: api.ErrToken, At: 7})
	next(t, "#a", 0, api.Word{}, api.Fault{Err: api.ErrToken})
}

// P9.1: the place of a fault is that of what begins there, not where Next was asked to look, nor where it goes wrong.
func TestPlacesOfFaults(t *testing.T) {
	for _, ahead := range []string{"", " ", "\n\t\r ", "-- it's\n", "select a, ", "'it''s'", "x'00' ", "1 ", "||", "a."} {
		for _, wrong := range []string{"@", "|", "'a", "'", "'''", "x'", "X'0", "x'0g'", "x'012'", "9223372036854775808", "\x80", "!=", "[a]", "\"a\"", "`a`", "$1", ":a", "{", "\\", "^", "~", "&", "é", "\x00", "\x7f"} {
			text := ahead + wrong
			next(t, text, len(ahead), api.Word{}, api.Fault{Err: api.ErrToken, At: len(ahead)})
			if strings.Trim(ahead, " \n\t\r") == "" || ahead[0] == '-' {
				next(t, text, 0, api.Word{}, api.Fault{Err: api.ErrToken, At: len(ahead)})
			}
		}
	}
}

// P9.1: at a place within a token another one begins.
func TestWithinTokens(t *testing.T) {
	for _, c := range []struct {
		text string
		at   int
		want api.Word
	}{
		{"SELECT", 3, api.Word{Kind: api.WName, S: "ect", At: 3, End: 6}}, {"xas", 1, api.Word{Kind: api.WKey, S: "as", At: 1, End: 3}}, {"ax'00'", 1, api.Word{Kind: api.WBlob, S: "\x00", At: 1, End: 6}}, {"x'00'", 2, api.Word{Kind: api.WInt, N: 0, At: 2, End: 4}}, {"x'00'", 1, api.Word{Kind: api.WText, S: "00", At: 1, End: 5}},
		{"120", 1, api.Word{Kind: api.WInt, N: 20, At: 1, End: 3}}, {"<=", 1, api.Word{Kind: api.WSign, S: "=", At: 1, End: 2}}, {"'it''s'", 4, api.Word{Kind: api.WText, S: "s", At: 4, End: 7}}, {"-- a", 3, api.Word{Kind: api.WName, S: "a", At: 3, End: 4}},
	} {
		next(t, c.text, c.at, c.want, api.Fault{})
	}
	refused(t, "||", 1)
	refused(t, "'it''s'", 6)
}

// P9.2: a text as it stands in a statement, whatever its bytes are.
func TestQuote(t *testing.T) {
	for s, want := range map[string]string{"": "''", "'": "''''", "''": "''''''", "it's": "'it''s'", "a": "'a'", "a\nb": "'a\nb'", "\x00\xff": "'\x00\xff'", "--": "'--'", "\\'": "'\\'''", "'a": "'''a'", "a'": "'a'''", "É\"": "'É\"'"} {
		if got := Quote(s); got != want {
			t.Errorf("Quote(%q) = %q", s, got)
		}
	}
	for _, s := range someStrings() {
		want := "'"
		for i := range len(s) {
			want += s[i : i+1]
			if s[i] == '\'' {
				want += "'"
			}
		}
		if got := Quote(s); got != want+"'" {
			t.Errorf("Quote(%q) = %q", short(s), short(got))
		}
	}
}

// P9.2: a blob as it stands in a statement: a small x, small digits, two of each byte.
func TestHex(t *testing.T) {
	for s, want := range map[string]string{"": "x''", "\x00": "x'00'", "\x0fA": "x'0f41'", "\xff\x00\x0a": "x'ff000a'", "'": "x'27'", "it's": "x'69742773'"} {
		if got := Hex(s); got != want {
			t.Errorf("Hex(%q) = %q", s, got)
		}
	}
	for _, s := range someStrings() {
		if got := Hex(s); got != "x'"+hex.EncodeToString([]byte(s))+"'" {
			t.Errorf("Hex(%q) = %q", short(s), short(got))
		}
	}
}

// P9.2: there is no limit to what is shown, though Next would not take it.
func TestShownBeyondTexts(t *testing.T) {
	long := strings.Repeat("a'", api.MaxText)
	if got := Quote(long); got != "'"+strings.Repeat("a''", api.MaxText)+"'" {
		t.Error(len(got))
	}
	if got := Hex(long); got != "x'"+strings.Repeat("6127", api.MaxText)+"'" {
		t.Error(len(got))
	}
}

// The chapter's examples.
func TestExamples(t *testing.T) {
	next(t, "SELECT a", 0, api.Word{Kind: api.WKey, S: "select", At: 0, End: 6}, api.Fault{})
	next(t, "'it''s'", 0, api.Word{Kind: api.WText, S: "it's", At: 0, End: 7}, api.Fault{})
	next(t, "x'0aFF'", 0, api.Word{Kind: api.WBlob, S: "\x0a\xff", At: 0, End: 7}, api.Fault{})
	next(t, "x'0'", 0, api.Word{}, api.Fault{Err: api.ErrToken})
	next(t, "a||b", 1, api.Word{Kind: api.WSign, S: "||", At: 1, End: 3}, api.Fault{})
	next(t, "ax'00'", 0, api.Word{Kind: api.WName, S: "ax", At: 0, End: 2}, api.Fault{})
	if got := Quote("it's"); got != "'it''s'" {
		t.Error(got)
	}
}
