package cursor

import (
	"bytes"
	"fmt"
	"maps"
	"slices"
	"testing"

	"cardindex/api"
	"cardindex/undo"
)

// some_test.go: what the tests are made of; a twin of a store and its cursors, that looks through all entries each time.

// store is a new store with so many trees.
func store(t *testing.T, fan, most, trees int) *undo.Store {
	t.Helper()
	s, err := undo.New(fan, most)
	if err != api.OK {
		t.Fatalf("New(%d, %d): error %d", fan, most, err)
	}
	for range trees {
		create(t, s)
	}
	return s
}

// create is a new tree's number.
func create(t *testing.T, s *undo.Store) int {
	t.Helper()
	id, err := s.Create()
	if err != api.OK {
		t.Fatalf("Create: error %d", err)
	}
	return id
}

// drop drops a tree that is there.
func drop(t *testing.T, s *undo.Store, id int) {
	t.Helper()
	if err := s.Drop(id); err != api.OK {
		t.Fatalf("Drop(%d): error %d", id, err)
	}
}

// put puts entries that are not there yet: the value of a key is the key in brackets.
func put(t *testing.T, s *undo.Store, id int, keys ...string) {
	t.Helper()
	for _, key := range keys {
		if there, err := s.Put(id, []byte(key), []byte(valOf(key))); there || err != api.OK {
			t.Fatalf("Put(%d, %q): %v, error %d", id, key, there, err)
		}
	}
}

// take takes entries that are there.
func take(t *testing.T, s *undo.Store, id int, keys ...string) {
	t.Helper()
	for _, key := range keys {
		if there, err := s.Delete(id, []byte(key)); !there || err != api.OK {
			t.Fatalf("Delete(%d, %q): %v, error %d", id, key, there, err)
		}
	}
}

// mark is a new mark.
func mark(t *testing.T, s *undo.Store) int {
	t.Helper()
	n, err := s.Mark()
	if err != api.OK {
		t.Fatalf("Mark: error %d", err)
	}
	return n
}

// back goes back to a mark that is there.
func back(t *testing.T, s *undo.Store, n int) {
	t.Helper()
	if err := s.Back(n); err != api.OK {
		t.Fatalf("Back(%d): error %d", n, err)
	}
}

// cursor is a new cursor, nowhere.
func cursor(t *testing.T, s *undo.Store, id int) *Cursor {
	t.Helper()
	c, err := New(s, id)
	if err != api.OK || c == nil {
		t.Fatalf("New(%d): error %d", id, err)
	}
	isInvalid(t, c)
	return c
}

// few is a store with a tree of fan 4, number 1, that has those keys, and a cursor of it.
func few(t *testing.T, keys ...string) (*undo.Store, *Cursor) {
	t.Helper()
	s := store(t, 4, 1000, 1)
	put(t, s, 1, keys...)
	return s, cursor(t, s, 1)
}

// keyOf is the i-th of many keys, in their order.
func keyOf(i int) string { return fmt.Sprintf("%06d", i) }

// keysTo is the first of many keys, so many.
func keysTo(many int) []string {
	keys := make([]string, many)
	for i := range keys {
		keys[i] = keyOf(i)
	}
	return keys
}

// valOf is the value that put gives a key.
func valOf(key string) string { return "[" + key + "]" }

// isAt: c is valid, at that key and its value.
func isAt(t *testing.T, c *Cursor, key string) {
	t.Helper()
	if !c.Valid() || string(c.Key()) != key || string(c.Value()) != valOf(key) {
		t.Fatalf("at %q %q, valid %v, not at %q", c.Key(), c.Value(), c.Valid(), key)
	}
}

// isInvalid: c is not valid, and tells nothing.
func isInvalid(t *testing.T, c *Cursor) {
	t.Helper()
	if c.Valid() || c.Key() != nil || c.Value() != nil {
		t.Fatalf("at %q %q, valid %v", c.Key(), c.Value(), c.Valid())
	}
}

// isNowhere: c is not valid, and nothing is behind where it is or ahead of it, though the tree has entries.
func isNowhere(t *testing.T, c *Cursor) {
	t.Helper()
	isInvalid(t, c)
	if c.store.Len(c.tree) == 0 {
		t.Fatal("of a tree without entries nowhere can't be told")
	}
	copied := *c
	copied.self = &copied
	if copied.Next() || copied.Prev() {
		t.Fatalf("at %q, not nowhere", copied.Key())
	}
	isInvalid(t, &copied)
}

// walk is the keys that step comes to, until there is none; more than 2000 are not asked for.
func walk(first bool, step func() bool, c *Cursor) []string {
	var keys []string
	for ok := first; ok && len(keys) < 2000; ok = step() {
		keys = append(keys, string(c.Key()))
	}
	return keys
}

// forth is all keys from the first one on, back those from the last one back.
func forth(c *Cursor) []string { return walk(c.Rewind(), c.Next, c) }

func backward(c *Cursor) []string { return walk(c.Last(), c.Prev, c) }

// entries is a tree without nodes.
type entries map[string]string

// twin is a store's trees, and its marks, in which they are once more.
type twin struct {
	trees map[int]entries
	next  int
	marks []twin
}

func newTwin() *twin { return &twin{trees: map[int]entries{}, next: 1} }

// copied is a copy of w's trees, without marks.
func (w *twin) copied() twin {
	out := twin{trees: map[int]entries{}, next: w.next}
	for id, e := range w.trees {
		out.trees[id] = maps.Clone(e)
	}
	return out
}

// spot is where a cursor is, as its twin has it.
type spot struct {
	tree int
	set  bool
	key  string
}

// seek is the chapter's words: of all keys for which holds tells true the first one, or the last one.
func (p *spot) seek(w *twin, last bool, holds func(key string) bool) bool {
	var found []string
	for key := range w.trees[p.tree] {
		if holds(key) {
			found = append(found, key)
		}
	}
	p.key, p.set = "", len(found) > 0
	if p.set && last {
		p.key = slices.Max(found)
	} else if p.set {
		p.key = slices.Min(found)
	}
	return p.set
}

// move moves the spot as the call of that name moves a cursor; how and key are Seek's.
func (p *spot) move(w *twin, call string, how api.Seek, key string) bool {
	at, was := p.key, p.set
	switch call {
	case "Rewind":
		return p.seek(w, false, func(string) bool { return true })
	case "Last":
		return p.seek(w, true, func(string) bool { return true })
	case "Next":
		return p.seek(w, false, func(k string) bool { return was && k > at })
	case "Prev":
		return p.seek(w, true, func(k string) bool { return was && k < at })
	}
	switch how {
	case api.SeekGE:
		return p.seek(w, false, func(k string) bool { return k >= key })
	case api.SeekGT:
		return p.seek(w, false, func(k string) bool { return k > key })
	case api.SeekLE:
		return p.seek(w, true, func(k string) bool { return k <= key })
	case api.SeekLT:
		return p.seek(w, true, func(k string) bool { return k < key })
	}
	return p.seek(w, false, func(string) bool { return false })
}

// move moves a cursor by the call of that name.
func move(c *Cursor, call string, how api.Seek, key string) bool {
	switch call {
	case "Rewind":
		return c.Rewind()
	case "Last":
		return c.Last()
	case "Next":
		return c.Next()
	case "Prev":
		return c.Prev()
	}
	return c.Seek(how, []byte(key))
}

// hold holds what c tells of where it is against its spot.
func (p *spot) hold(t *testing.T, w *twin, c *Cursor) {
	t.Helper()
	val, there := w.trees[p.tree][p.key]
	if !p.set || !there {
		isInvalid(t, c)
		return
	}
	if !c.Valid() || string(c.Key()) != p.key || string(c.Value()) != val {
		t.Fatalf("at %q %q, valid %v, not at %q %q", c.Key(), c.Value(), c.Valid(), p.key, val)
	}
}

// chance tells numbers that look like none in particular, always the same.
type chance uint64

func (c *chance) below(n int) int {
	*c = *c*6364136223846793005 + 1442695040888963407
	return int(uint64(*c) >> 33 % uint64(n))
}

// spoil writes over all that b has, its spare room too.
func spoil(b []byte) {
	b = b[:cap(b)]
	for i := range b {
		b[i] = 0x55
	}
}

// roomy is s with spare room behind it.
func roomy(s string) []byte {
	return append(make([]byte, 0, len(s)+16), s...)
}

// long is n bytes.
func long(n int) []byte { return bytes.Repeat([]byte("x"), n) }
