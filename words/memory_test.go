package words

import (
	"strings"
	"testing"
	"unsafe"

	"cardindex/api"
)

// memory_test.go: R2, R3: what stands beside an error; memory that is shared with nobody.

// own is s in memory that the test may write over.
func own(s string) (string, []byte) {
	memory := []byte(s)
	return unsafe.String(unsafe.SliceData(memory), len(memory)), memory
}

// spoil writes over all of it.
func spoil(memory []byte) {
	for i := range memory {
		memory[i] = 0x55
	}
}

// R3: what is told stays what it is, whatever becomes of the text's memory.
func TestWhatIsToldSharesNothing(t *testing.T) {
	for s, want := range map[string]api.Word{
		"abc":     nameWord("abc"),
		"ABC":     nameWord("abc"),
		"a":       nameWord("a"),
		"select":  keyWord("select"),
		"SELECT":  keyWord("select"),
		"'abc'":   textWord("abc"),
		"'a''b'":  textWord("a'b"),
		"'a'":     textWord("a"),
		"x'6162'": blobWord("ab"),
		"||":      signWord("||"),
		"<>":      signWord("<>"),
		"?":       signWord("?"),
		"12":      intWord(12),
	} {
		for _, ahead := range []string{"", " ", "--\n"} {
			text, memory := own(ahead + s + " ")
			got, f := Next(text, 0)
			if string(memory) != ahead+s+" " {
				t.Errorf("%q is changed", s)
			}
			spoil(memory)
			want.At, want.End = len(ahead), len(ahead)+len(s)
			if got != want || f != (api.Fault{}) {
				t.Errorf("%q: %s, fault %v", s, shown(got), f)
			}
		}
	}
}

// R3: what is shown shares nothing with what is handed in, which stays as it is.
func TestWhatIsShownSharesNothing(t *testing.T) {
	for name, show := range map[string]func(string) string{"Quote": Quote, "Hex": Hex} {
		for _, s := range []string{"a", "abc", "it's", "'", strings.Repeat("ab'", 100)} {
			want := show(strings.Clone(s))
			handed, memory := own(s)
			got := show(handed)
			if string(memory) != s {
				t.Errorf("%s(%q): it is changed", name, short(s))
			}
			spoil(memory)
			if got != want {
				t.Errorf("%s(%q): %q", name, short(s), short(got))
			}
		}
	}
}

// R2: no word beside a fault, no fault beside a word, and what a kind does not name is zero.
func TestNothingBesideFaults(t *testing.T) {
	texts := append(someStrings(), "select 'a", "x'00' x'0", "12 99999999999999999999", "a || b | c", xs(api.MaxText+1))
	for _, text := range texts {
		for at := -1; at <= len(text)+1; at += 1 + len(text)/300 {
			w, f := Next(text, at)
			switch {
			case f.Err != api.OK && w != (api.Word{}):
				t.Fatalf("%q at %d: %s beside fault %v", short(text), at, shown(w), f)
			case f.Err == api.OK && (f.At != 0 || w.Kind < api.WInt || w.Kind > api.WEnd):
				t.Fatalf("%q at %d: %s, fault %v", short(text), at, shown(w), f)
			case f.Err == api.ErrArg && f.At != 0, f.Err == api.ErrLong && f.At != 0:
				t.Fatalf("%q at %d: fault %v", short(text), at, f)
			case w.Kind != api.WInt && w.N != 0, (w.Kind == api.WInt || w.Kind == api.WEnd) && w.S != "":
				t.Fatalf("%q at %d: %s", short(text), at, shown(w))
			}
		}
	}
}
