package value

import (
	"strings"
	"testing"
)

// P2.1: patterns, and what they are like.
func TestLike(t *testing.T) {
	for _, c := range []struct {
		s, pattern string
		want       bool
	}{
		{"Card", "c%r_", true}, {"", "", true}, {"", "%", true}, {"", "%%", true}, {"", "_", false}, {"", "%_", false}, {"", "a", false},
		{"a", "", false}, {"a", "_", true}, {"a", "%", true}, {"a", "%_", true}, {"a", "_%", true}, {"a", "__", false}, {"a", "%a%", true}, {"a", "a%", true}, {"a", "%a", true},
		{"a", "A", true}, {"A", "a", true}, {"Z", "z", true}, {"z", "Z", true}, {"M", "m", true},
		{"@", "`", false}, {"`", "@", false}, {"[", "{", false}, {"{", "[", false}, {"1", "Q", false}, {"\xc9", "\xe9", false}, {"É", "é", false}, {"\x00", "\x20", false}, {"K", "\u212a", false},
		{"é", "_", false}, {"é", "__", true}, {"\xff", "_", true}, {"\x00", "_", true}, {"\n", "_", true}, {"a\nb", "a%b", true},
		{"%", "%", true}, {"_", "_", true}, {"a", "\\%", false}, {"\\x", "\\_", true}, {"*", "*", true}, {"a", "*", false}, {"a", "?", false}, {"a", "[a]", false}, {"%a", "%%a", true},
		{"abc", "abc", true}, {"abc", "ab", false}, {"ab", "abc", false}, {"abc", "a_c", true}, {"abc", "a%", true}, {"abc", "%c", true}, {"abc", "%b%", true}, {"abc", "%d%", false}, {"abc", "_", false}, {"abc", "b%", false}, {"abc", "%b", false}, {"abc", "abc%", true}, {"abc", "%abc", true}, {"abc", "abc_", false},
		{"aab", "%ab", true}, {"abab", "%ab", true}, {"ababa", "%ab", false}, {"mississippi", "m%iss%ip%i", true}, {"mississippi", "m%iss%is%p_", true}, {"mississippi", "m%iss%iss%is%p_", false}, {"mississippi", "%s_p%", true}, {"abcabd", "%ab_", true}, {"aaab", "a%a%a%b", true}, {"aab", "a%a%a%b", false},
	} {
		if got := Like(c.s, c.pattern); got != c.want {
			t.Errorf("Like(%q, %q) = %v", c.s, c.pattern, got)
		}
	}
}

// likeSlow says the chapter's words in another way: % is tried with all that it may stand for.
func likeSlow(s, pattern string) bool {
	if pattern == "" {
		return s == ""
	}
	if pattern[0] == '%' {
		for i := range len(s) + 1 {
			if likeSlow(s[i:], pattern[1:]) {
				return true
			}
		}
		return false
	}
	if s == "" {
		return false
	}
	isLetter := func(c byte) bool { return strings.IndexByte("abcdefghijklmnopqrstuvwxyz", c|32) >= 0 && c < 128 }
	same := pattern[0] == s[0] || isLetter(s[0]) && isLetter(pattern[0]) && s[0]|32 == pattern[0]|32
	return (pattern[0] == '_' || same) && likeSlow(s[1:], pattern[1:])
}

// allOf is all strings of these bytes, of at most so many.
func allOf(bytes string, most int) []string {
	l := []string{""}
	last := l
	for range most {
		var next []string
		for _, s := range last {
			for i := range len(bytes) {
				next = append(next, s+bytes[i:i+1])
			}
		}
		l, last = append(l, next...), next
	}
	return l
}

// P2.1: all short patterns, held against all short texts.
func TestLikeOfAllShort(t *testing.T) {
	texts := append(allOf("ab", 6), allOf("aB%_", 3)...)
	for _, pattern := range allOf("aB%_", 5) {
		for _, s := range texts {
			if got := Like(s, pattern); got != likeSlow(s, pattern) {
				t.Fatalf("Like(%q, %q) = %v", s, pattern, got)
			}
		}
	}
}

// P2.1: each byte, held against each byte.
func TestLikeOfEachByte(t *testing.T) {
	for p := range 256 {
		for c := range 256 {
			s, pattern := string([]byte{byte(c)}), string([]byte{byte(p)})
			if got := Like(s, pattern); got != likeSlow(s, pattern) {
				t.Errorf("Like(%q, %q) = %v", s, pattern, got)
			}
		}
	}
}

// R1: a pattern that is hard to refuse is refused, and so is one that is longer than the sign like may have.
func TestLikeEnds(t *testing.T) {
	s := strings.Repeat("a", 1<<16)
	if Like(s, strings.Repeat("%a", 400)+"%b") {
		t.Error("many %")
	}
	if Like(s, "%"+strings.Repeat("a", 900)+"b") {
		t.Error("a long run")
	}
	if !Like(s, strings.Repeat("%_", 1<<15)) || Like("a", strings.Repeat("%a", 2000)) {
		t.Error("a long pattern")
	}
}

// P2.1: patterns that nobody thought of.
func FuzzLike(f *testing.F) {
	f.Add("Card", "c%r_")
	f.Fuzz(func(t *testing.T, s, pattern string) {
		if len(s) > 12 || len(pattern) > 12 { // likeSlow is slow
			return
		}
		if got := Like(s, pattern); got != likeSlow(s, pattern) {
			t.Fatalf("Like(%q, %q) = %v", s, pattern, got)
		}
	})
}
