package words

import (
	"strings"
	"testing"

	"cardindex/api"
)

// follows_test.go: P9.3, what follows; Next held against its twin.

// P9.3: what Quote and Hex show is told again, whole, whatever stands ahead of it or behind.
func TestWhatIsShownIsTold(t *testing.T) {
	for _, s := range someStrings() {
		toldAgain(t, s)
	}
	c := chance(9)
	for range 3000 {
		b := make([]byte, c.below(30))
		for i := range b {
			b[i] = "'''x0a- \n\x00\xff"[c.below(11)]
			if c.below(3) == 0 {
				b[i] = byte(c.below(256))
			}
		}
		toldAgain(t, string(b))
	}
}

func toldAgain(t *testing.T, s string) {
	t.Helper()
	for _, ahead := range []string{"", " ", "--\n", "a ", "1", "("} {
		for _, behind := range []string{"", " ", "a", ",'", "x'00'"} {
			for shown, want := range map[string]api.Word{Quote(s): textWord(s), Hex(s): blobWord(s)} {
				want.At, want.End = len(ahead), len(ahead)+len(shown)
				next(t, ahead+shown+behind, len(ahead), want, api.Fault{})
			}
		}
	}
}

// P9.3: as long as a statement may be, and not a byte longer.
func TestWhatIsShownAtTheLimit(t *testing.T) {
	toldAgainAlone := func(shown string, want api.Word) {
		if len(shown) > api.MaxText {
			next(t, shown, 0, api.Word{}, api.Fault{Err: api.ErrLong})
		} else {
			is(t, shown, "", want)
		}
	}
	for _, n := range []int{api.MaxText/2 - 3, api.MaxText/2 - 2, api.MaxText/2 - 1, api.MaxText/2 + 1} {
		toldAgainAlone(Hex(xs(n)), blobWord(xs(n)))
		quotes := strings.Repeat("'", n)
		toldAgainAlone(Quote(quotes), textWord(quotes))
		toldAgainAlone(Quote(xs(2*n)), textWord(xs(2*n)))
		toldAgainAlone(Quote(xs(2*n+1)), textWord(xs(2*n+1)))
	}
}

// rise reads a text token by token, up to its end or its first fault: they rise and never overlap, and nothing but what is passed over stands between.
func rise(t *testing.T, text string) {
	t.Helper()
	at := 0
	for {
		w, f := Next(text, at)
		if f.Err != api.OK {
			if w != (api.Word{}) || f.Err != api.ErrToken || f.At < at || f.At >= len(text) || len(overPattern.FindString(text[at:])) != f.At-at {
				t.Fatalf("%q at %d: %s, fault %v", short(text), at, shown(w), f)
			}
			return
		}
		if w.At < at || w.End < w.At || w.End > len(text) || f.At != 0 || len(overPattern.FindString(text[at:])) != w.At-at {
			t.Fatalf("%q at %d: %s", short(text), at, shown(w))
		}
		if w.Kind == api.WEnd {
			if w != (api.Word{Kind: api.WEnd, At: len(text), End: len(text)}) {
				t.Fatalf("%q at %d: %s", short(text), at, shown(w))
			}
			return
		}
		if w.End == w.At {
			t.Fatalf("%q at %d: a token of nothing: %s", short(text), at, shown(w))
		}
		at = w.End
	}
}

// P9.3: what one token is does not hang on what stands ahead of where it is looked for.
func TestWhatIsAheadIsNotAsked(t *testing.T) {
	for _, ahead := range []string{"'", "x'", "--", "a", "1", "|", "@", "\xff", "<", "x"} {
		for _, text := range []string{"a", "'b'", "x'00'", "12", "|| c", "> 1", "", " ", "--d\ne", "@", "'"} {
			w, f := Next(text, 0)
			if f.Err == api.OK {
				w.At, w.End = w.At+len(ahead), w.End+len(ahead)
			} else {
				f.At += len(ahead)
			}
			next(t, ahead+text, len(ahead), w, f)
		}
	}
}

// P9.1, P9.3: all short texts of a few bytes, from all places.
func TestAllShortTexts(t *testing.T) {
	for _, few := range []string{"x'0", "'-\na", "X'f 1", "<>=|", "a_1 ", "-\n'\r"} {
		var grow func(text string, more int)
		grow = func(text string, more int) {
			hold(t, text)
			rise(t, text)
			if more == 0 {
				return
			}
			for i := range len(few) {
				grow(text+few[i:i+1], more-1)
			}
		}
		grow("", 6)
	}
}

// P9.1, P9.3: texts put together of tokens, of what is none, and of bytes by chance.
func TestWhateverStandsThere(t *testing.T) {
	parts := append(append([]string{" ", "\n", "\t\r", "-- it's\n", "--", "-", "'a'", "'it''s'", "'", "x'00fF'", "X''", "x'", "x'0", "0", "12", "9223372036854775807", "9223372036854775808", "a", "t1", "_B", "x", "X", "|", "@", "\x00", "\xff", "é", "\"", "0x"}, keys()...), signs()...)
	c := chance(1)
	for range 4000 {
		var text strings.Builder
		for range c.below(12) {
			part := parts[c.below(len(parts))]
			switch c.below(8) {
			case 0:
				part = strings.ToUpper(part)
			case 1:
				part = string([]byte{byte(c.below(256))})
			}
			text.WriteString(part)
		}
		hold(t, text.String())
		rise(t, text.String())
	}
}

// P9.3: a whole statement, token by token.
func TestStatement(t *testing.T) {
	text := "Insert Into T1 (a,_b) -- rows\n\tvalues(1,'it''s'),(?,X'0f')\r\n-- none\nselect*from t where a>=-1 and b||''<>x'' limit 10;"
	want := []api.Word{
		keyWord("insert"), keyWord("into"), nameWord("t1"), signWord("("), nameWord("a"), signWord(","), nameWord("_b"), signWord(")"),
		keyWord("values"), signWord("("), intWord(1), signWord(","), textWord("it's"), signWord(")"), signWord(","), signWord("("), signWord("?"), signWord(","), blobWord("\x0f"), signWord(")"),
		keyWord("select"), signWord("*"), keyWord("from"), nameWord("t"), keyWord("where"), nameWord("a"), signWord(">="), signWord("-"), intWord(1), keyWord("and"), nameWord("b"), signWord("||"), textWord(""), signWord("<>"), blobWord(""), keyWord("limit"), intWord(10), signWord(";"), {Kind: api.WEnd},
	}
	at := 0
	for i, w := range want {
		got, f := Next(text, at)
		at = got.End
		got.At, got.End = 0, 0
		if got != w || f != (api.Fault{}) {
			t.Fatalf("%d: %s, fault %v, not %s", i, shown(got), f, shown(w))
		}
	}
	hold(t, text)
	rise(t, text)
}

// P9.1 to P9.3: texts that nobody thought of.
func FuzzNext(f *testing.F) {
	for _, text := range []string{"select a, 'it''s' from t -- r\n where b <> x'0F'", "''' x'0' 99999999999999999999 | ||", "\x00é\xff"} {
		f.Add(text)
	}
	f.Fuzz(func(t *testing.T, text string) {
		if len(text) > 300 {
			return
		}
		hold(t, text)
		rise(t, text)
		toldAgain(t, text)
	})
}
