package cursor

import (
	"slices"
	"testing"

	"cardindex/api"
)

// seek_test.go: P6.2: where a cursor is put.

// P6.2: all four ways of seeking, of keys that are there and such that are not.
func TestSeek(t *testing.T) {
	for _, one := range []struct {
		key            string
		ge, gt, le, lt string // "-": none
	}{
		{"", "b", "b", "-", "-"},
		{"a", "b", "b", "-", "-"},
		{"b", "b", "bb", "b", "-"},
		{"b\x00", "bb", "bb", "b", "b"},
		{"ba", "bb", "bb", "b", "b"},
		{"bb", "bb", "d", "bb", "b"},
		{"c", "d", "d", "bb", "bb"},
		{"d", "d", "\xff", "d", "bb"},
		{"d\xff", "\xff", "\xff", "d", "d"},
		{"\xff", "\xff", "-", "\xff", "d"},
		{"\xff\x00", "-", "-", "\xff", "\xff"},
	} {
		for how, want := range map[api.Seek]string{api.SeekGE: one.ge, api.SeekGT: one.gt, api.SeekLE: one.le, api.SeekLT: one.lt} {
			_, c := few(t, "b", "bb", "d", "\xff")
			for range 2 { // where it is ahead of that tells nothing
				if got := c.Seek(how, []byte(one.key)); got != (want != "-") {
					t.Fatalf("Seek(%d, %q): %v", how, one.key, got)
				}
				if want == "-" {
					isNowhere(t, c)
					c.Last()
				} else {
					isAt(t, c, want)
				}
			}
		}
	}
}

// P6.2: of any other how there is none, and the cursor is nowhere.
func TestSeekOtherwise(t *testing.T) {
	_, c := few(t, "a", "b")
	for how := range 256 {
		if how >= int(api.SeekGE) && how <= int(api.SeekLT) {
			continue
		}
		for _, key := range []string{"", "a", "b", "c"} {
			c.Rewind()
			if c.Seek(api.Seek(how), []byte(key)) {
				t.Fatalf("Seek(%d, %q): true", how, key)
			}
			isNowhere(t, c)
		}
	}
}

// P6.2: no key is the same as one of no bytes.
func TestSeekNoBytes(t *testing.T) {
	s, c := few(t, "", "a")
	for _, key := range [][]byte{nil, {}} {
		if !c.Seek(api.SeekGE, key) || !c.Valid() || len(c.Key()) != 0 {
			t.Errorf("GE: at %q", c.Key())
		}
		if !c.Seek(api.SeekGT, key) || string(c.Key()) != "a" {
			t.Errorf("GT: at %q", c.Key())
		}
		if !c.Seek(api.SeekLE, key) || !c.Valid() || len(c.Key()) != 0 {
			t.Errorf("LE: at %q", c.Key())
		}
		if c.Seek(api.SeekLT, key) {
			t.Errorf("LT: at %q", c.Key())
		}
		isNowhere(t, c)
	}
	if s.Len(1) != 2 {
		t.Errorf("%d entries", s.Len(1))
	}
}

// P6.2: Rewind is at the first key, Last at the last one, wherever the cursor was.
func TestRewindAndLast(t *testing.T) {
	for _, many := range []int{1, 2, 4, 5, 100} {
		s, c := few(t, keysTo(many)...)
		for range 2 {
			if !c.Rewind() {
				t.Fatal("no first key")
			}
			isAt(t, c, keyOf(0))
			if !c.Last() {
				t.Fatal("no last key")
			}
			isAt(t, c, keyOf(many-1))
		}
		for range 2 {
			c.Seek(9, nil)
			isNowhere(t, c)
			if !c.Last() {
				t.Fatal("no last key")
			}
			c.Seek(9, nil)
			if !c.Rewind() {
				t.Fatal("no first key")
			}
			isAt(t, c, keyOf(0))
		}
		take(t, s, 1, keysTo(many)...)
		c.Last()
		put(t, s, 1, "z")
		isNowhere(t, c)
	}
}

// P6.2: Next and Prev, from the first key to the last one and back, in trees of any depth; behind the last one it is nowhere, and stays there.
func TestNextAndPrev(t *testing.T) {
	for _, fan := range []int{4, 5, 64} {
		for _, many := range []int{0, 1, 2, 4, 5, 9, 17, 64, 65, 1000} {
			s := store(t, fan, 2000, 1)
			keys := keysTo(many)
			put(t, s, 1, keys...)
			c := cursor(t, s, 1)
			for range 2 {
				if got := forth(c); !slices.Equal(got, keys) {
					t.Fatalf("fan %d: forth %q", fan, got)
				}
				slices.Reverse(keys)
				if got := backward(c); !slices.Equal(got, keys) {
					t.Fatalf("fan %d: backward %q", fan, got)
				}
				slices.Reverse(keys)
				if c.Next() || c.Prev() || c.Valid() {
					t.Fatalf("fan %d: at %q", fan, c.Key())
				}
			}
		}
	}
}

// P6.2: one step, from each key and each side.
func TestSteps(t *testing.T) {
	_, c := few(t, keysTo(30)...)
	for i := range 30 {
		c.Seek(api.SeekGE, []byte(keyOf(i)))
		if c.Next() != (i < 29) {
			t.Fatalf("Next of %d", i)
		}
		if i < 29 {
			isAt(t, c, keyOf(i+1))
		} else {
			isNowhere(t, c)
		}
		c.Seek(api.SeekGE, []byte(keyOf(i)))
		if c.Prev() != (i > 0) {
			t.Fatalf("Prev of %d", i)
		}
		if i > 0 {
			isAt(t, c, keyOf(i-1))
		} else {
			isNowhere(t, c)
		}
	}
}

// moves is each call that moves a cursor, by name; Seek by its number, too.
func moves(each func(call string, how api.Seek)) {
	for _, call := range []string{"Rewind", "Last", "Next", "Prev"} {
		each(call, 0)
	}
	for _, how := range []api.Seek{0, api.SeekGE, api.SeekGT, api.SeekLE, api.SeekLT, 5} {
		each("Seek", how)
	}
}

// P6.2: of a tree without entries, and of one that is gone, there is none, and the cursor is nowhere, also when the tree is there again.
func TestNothingThere(t *testing.T) {
	for _, gone := range []bool{false, true} {
		moves(func(call string, how api.Seek) {
			s, c := few(t, "a", "b", "c")
			c.Seek(api.SeekGE, []byte("b"))
			n := mark(t, s)
			if gone {
				drop(t, s, 1)
			} else {
				take(t, s, 1, "a", "b", "c")
			}
			if move(c, call, how, "b") {
				t.Errorf("%s(%d) gone %v: true", call, how, gone)
			}
			back(t, s, n)
			isNowhere(t, c)
		})
	}
}

// P6.2: a cursor that is nowhere is come to by no Next and no Prev, but by all others.
func TestFromNowhere(t *testing.T) {
	moves(func(call string, how api.Seek) {
		_, c := few(t, "a", "b", "c")
		want := call != "Next" && call != "Prev" && (call != "Seek" || how >= api.SeekGE && how <= api.SeekLT)
		if got := move(c, call, how, "b"); got != want || c.Valid() != want {
			t.Errorf("%s(%d): %v, at %q", call, how, got, c.Key())
		}
	})
}
