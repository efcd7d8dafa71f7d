package words

import (
	"slices"
	"strings"
	"testing"

	"cardindex/api"
)

// token_test.go: P9.1: each kind of token, what it tells, and where it ends.

// P9.1: ints up to 2^63 - 1, with as many digits as stand there.
func TestInts(t *testing.T) {
	for text, n := range map[string]int64{
		"0": 0, "7": 7, "10": 10, "0123456789": 123456789, "9223372036854775806": 1<<63 - 2, "9223372036854775807": 1<<63 - 1, "1000000000000000000": 1e18, "8999999999999999999": 8999999999999999999,
		"00": 0, "007": 7, "000000000000000000000": 0, "0000000000000000000000000009223372036854775807": 1<<63 - 1,
	} {
		for _, behind := range []string{"", " ", "a", "_1", "x'00'", ".5", "'", "@", "e5", "-- 1", "-1", ")", "\x80", "\n1"} {
			is(t, text, behind, intWord(n))
		}
	}
	for _, text := range []string{"9223372036854775808", "9223372036854775810", "9223372036854775900", "9300000000000000000", "10000000000000000000", "18446744073709551615", "18446744073709551616", "18446744073709551617", "36893488147419103232", "99999999999999999999", "09223372036854775808", "340282366920938463463374607431768211456", strings.Repeat("9", 1000)} {
		for _, behind := range []string{"", " ", "a", ")", "'"} {
			refused(t, text+behind, 0)
			next(t, " \n"+text+behind, 0, api.Word{}, api.Fault{Err: api.ErrToken, At: 2})
		}
	}
	is(t, "0", "x10", intWord(0))
	is(t, "1", "_000", intWord(1))
}

// P9.1: a name begins with a letter or _, goes on with these and digits, and is told in small letters.
func TestNames(t *testing.T) {
	for text, told := range map[string]string{
		"a": "a", "z": "z", "A": "a", "Z": "z", "_": "_", "__": "__", "_1": "_1", "a1": "a1", "aB_9z": "ab_9z", "ABCDEFGHIJKLMNOPQRSTUVWXYZ": "abcdefghijklmnopqrstuvwxyz", "abcdefghijklmnopqrstuvwxyz": "abcdefghijklmnopqrstuvwxyz", "_0123456789": "_0123456789",
		"x": "x", "X": "x", "xx": "xx", "x1": "x1", "X_": "x_", "b": "b", "n": "n", "Count": "count", "LENGTH": "length",
	} {
		for _, behind := range []string{"", " ", ".", "(", "\n", "@", "-", "--", "é", "\x00", "[", "`", "{", "/", ":", "\xff", "\u212a", "\u017f"} { // of the last two, letters, the small one is k, the great one is S
			is(t, text, behind, nameWord(told))
		}
	}
	is(t, "ax", "'00'", nameWord("ax"))
	is(t, "xx", "'00'", nameWord("xx"))
	is(t, "_x", "'00'", nameWord("_x"))
	is(t, "x", " '00'", nameWord("x"))
	is(t, "x", "\n'00'", nameWord("x"))
	is(t, "X", "", nameWord("x"))
	is(t, "y", "'00'", nameWord("y"))
	is(t, "n", "'a'", nameWord("n"))
}

// P9.1: which bytes a name begins with, and goes on with.
func TestBytesOfNames(t *testing.T) {
	const letters = "abcdefghijklmnopqrstuvwxyzABCDEFGHIJKLMNOPQRSTUVWXYZ_"
	for _, c := range bytesUpTo(256) {
		s := string([]byte{c})
		w, _ := Next(s+"q", 0)
		if told := w.Kind == api.WName && w.End == 2; told != isOneOf(c, letters+" \t\n\r") {
			t.Errorf("%q first: %s", s, shown(w))
		}
		w, _ = Next("q"+s, 0)
		if told := w.Kind == api.WName && w.End == 2 && w.S == "q"+strings.ToLower(s); told != isOneOf(c, letters+"0123456789") {
			t.Errorf("%q then: %s", s, shown(w))
		}
	}
}

// P9.1: keys, in all cases, and names that are nearly some.
func TestKeys(t *testing.T) {
	for _, key := range keys() {
		for _, text := range []string{key, strings.ToUpper(key), strings.ToUpper(key[:1]) + key[1:], key[:1] + strings.ToUpper(key[1:])} {
			for _, behind := range []string{"", " ", "(", "'a'", ".", "--", "@"} {
				is(t, text, behind, keyWord(key))
			}
		}
		for _, near := range []string{key + "s", key + "_", "_" + key, key + "1", key + key, "x" + key, key[1:], key[:len(key)-1]} {
			for _, text := range []string{near, strings.ToUpper(near)} {
				want := nameWord(near)
				if slices.Contains(keys(), near) {
					want = keyWord(near)
				}
				is(t, text, "", want)
			}
		}
	}
}

// P9.1: names that other languages keep for themselves are names here.
func TestNamesThatAreNoKeys(t *testing.T) {
	for _, name := range strings.Fields("all alter any avg blob case coalesce column count default else end except exists false foreign full hex if ifnull inner instr integer intersect key left length lower max min outer primary real references right sum then to total transaction true typeof union upper using varchar view when with xor") {
		is(t, name, "", nameWord(name))
	}
}

// P9.1: texts, of any bytes, a quote within as two.
func TestTexts(t *testing.T) {
	for text, told := range map[string]string{
		"''": "", "'a'": "a", "''''": "'", "''''''": "''", "'it''s'": "it's", "'''a'": "'a", "'a'''": "a'", "'''a'''": "'a'", "'a''''b'": "a''b", "' '": " ", "'A'": "A", "'\n'": "\n", "'\x00\xff'": "\x00\xff", "'é'": "é", "'\\'": "\\", "'--'": "--", "'x''00'''": "x'00'", "'\"'": "\"", "'SELECT'": "SELECT",
	} {
		for _, behind := range []string{"", " ", "a", "x'00'", ",", " 'b'", "\n'", "\"", "@", "--'"} {
			is(t, text, behind, textWord(told))
		}
	}
	for _, text := range []string{"'", "'a", "'''", "'''''", "'a''", "'a''b", "'\\''", "'a\n", "'a''\n", "'a\x00", "'--\n"} {
		refused(t, text, 0)
	}
	is(t, "'it'", "s'", textWord("it"))
	refused(t, "'it's'", 5)
	for _, c := range bytesUpTo(256) {
		if s := string([]byte{c}); c != '\'' {
			is(t, "'"+s+"'", "", textWord(s))
			is(t, "'a"+s+"a'", "", textWord("a"+s+"a"))
			refused(t, "'"+s, 0)
		}
	}
}

// P9.1: blobs, of pairs of digits, small or great; none at all, too.
func TestBlobs(t *testing.T) {
	for text, told := range map[string]string{
		"x''": "", "X''": "", "x'00'": "\x00", "X'ff'": "\xff", "x'FF'": "\xff", "x'fF'": "\xff", "x'0aFF'": "\x0a\xff", "x'27'": "'", "x'0123456789abcdefABCDEF'": "\x01\x23\x45\x67\x89\xab\xcd\xef\xab\xcd\xef", "x'000000'": "\x00\x00\x00",
	} {
		for _, behind := range []string{"", " ", "a", "x'00'", "'00'", "'", ",", "@", "--"} {
			is(t, text, behind, blobWord(told))
		}
	}
	for _, text := range []string{"x'", "X'", "x'0", "x'00", "x'0'", "x'000'", "X'012'", "x'0g'", "x'g0'", "x'gg'", "x' '", "x'00 '", "x' 00'", "x'00 00'", "x'0 0'", "x'00\n'", "x'-1'", "x'+1'", "x'0x'", "x'\x00'", "x'é'", "x'00\"", "x'0''0'", "x'_0'", "x'00g'", "x'\xff\xff'"} {
		refused(t, text, 0)
		next(t, "--\n "+text, 0, api.Word{}, api.Fault{Err: api.ErrToken, At: 4})
	}
}

// P9.1: which bytes are digits of a blob, first and second of a pair, and what they tell.
func TestDigitsOfBlobs(t *testing.T) {
	const small, great = "0123456789abcdef", "0123456789ABCDEF"
	for _, c := range bytesUpTo(256) {
		for _, d := range bytesUpTo(256) {
			high := max(strings.IndexByte(small, c), strings.IndexByte(great, c))
			low := max(strings.IndexByte(small, d), strings.IndexByte(great, d))
			text := "x'" + string([]byte{c, d}) + "'"
			switch {
			case high >= 0 && low >= 0:
				is(t, text, "", blobWord(string([]byte{byte(high<<4 | low)})))
			case c == '\'': // it ends there already
				is(t, "x''", text[3:], blobWord(""))
			default:
				refused(t, text, 0)
			}
		}
	}
}

// P9.1: signs, the longest one that stands there.
func TestSigns(t *testing.T) {
	for _, sign := range signs() {
		for _, behind := range []string{"", " ", "a", "1", "'", "@", "\n", "é", "\x00"} {
			is(t, sign, behind, signWord(sign))
		}
	}
	for _, c := range []struct{ sign, behind string }{
		{"||", "|"}, {"||", "||"}, {"<>", "="}, {"<=", ">"}, {"<=", "="}, {"<", "<"}, {"<", "<="}, {">=", "="}, {">", ">"}, {">", "<"}, {">", ">="}, {"=", "="}, {"=", "<"}, {"=", ">"}, {"<>", ">"}, {"+", "+"}, {"+", "="}, {"*", "*"}, {"-", ">"}, {"-", "="}, {"(", ")"}, {".", "."}, {",", ","}, {";", ";"}, {"?", "?"}, {"?", "1"}, {"%", "%"}, {"/", "/"}, {"/", "*"}, {"<", " >"}, {">", " ="}, {"-", " -"},
	} {
		is(t, c.sign, c.behind, signWord(c.sign))
	}
	for _, text := range []string{"|", "| |", "|a", "|=", "!", "!=", "@", "#", "$", "&", "&&", "^", "~", ":", "::", "[", "]", "{", "}", "\\", "\"", "`", "\x00", "\x0b", "\x0c", "\x7f", "\x80", "\xa0", "\xff", "é", "≤", "\u00a0", "\ufeff"} {
		refused(t, text, 0)
	}
}

// P9.1: which bytes a token may begin with at all, alone and with others behind.
func TestFirstBytes(t *testing.T) {
	const may = "abcdefghijklmnopqrstuvwxyzABCDEFGHIJKLMNOPQRSTUVWXYZ_0123456789=<>+-*/%(),.;? \t\n\r"
	for _, c := range bytesUpTo(256) {
		_, f := Next(string([]byte{c}), 0)
		if told := f == (api.Fault{}); told != isOneOf(c, may) {
			t.Errorf("%q: fault %v", string([]byte{c}), f)
		}
		for _, d := range bytesUpTo(256) {
			hold(t, string([]byte{c, d}))
		}
	}
}

// P9.1: WEnd at the end, as often as it is asked there, and where nothing but what is passed over stands ahead of it.
func TestEnd(t *testing.T) {
	for _, text := range []string{"", " ", "\t\n\r ", "--", "-- a\n", " --a\n --b"} {
		for at := range len(text) + 1 {
			if strings.Trim(text[at:], " \t\n\r") == "" || strings.HasPrefix(strings.TrimLeft(text[at:], " \t\n\r"), "--") {
				next(t, text, at, api.Word{Kind: api.WEnd, At: len(text), End: len(text)}, api.Fault{})
			}
		}
	}
}
