package cursor

import (
	"testing"

	"cardindex/api"
	"cardindex/undo"
)

// cursor_test.go: P6.1, P6.3: cursors made, what they tell and change.

// P6.1: a cursor of a tree that is there is nowhere.
func TestNew(t *testing.T) {
	s := store(t, 4, 100, 3)
	put(t, s, 2, "a", "b")
	drop(t, s, 1)
	c := cursor(t, s, 2)
	isNowhere(t, c)
	for _, id := range []int{2, 3} {
		cursor(t, s, id)
	}
	if err := c.Delete(); err != api.ErrNow {
		t.Errorf("error %d", err)
	}
}

// P6.1: of no such tree: ErrRoot.
func TestNewOfNoTree(t *testing.T) {
	s := store(t, 4, 100, 3)
	drop(t, s, 2)
	mark(t, s)
	for _, id := range []int{-1 << 63, -1, 0, 2, 4, 1<<63 - 1} {
		if c, err := New(s, id); c != nil || err != api.ErrRoot {
			t.Errorf("tree %d: %v, error %d", id, c, err)
		}
	}
	none := store(t, 4, 100, 0)
	if c, err := New(none, 1); c != nil || err != api.ErrRoot {
		t.Errorf("%v, error %d", c, err)
	}
	if s.Marks() != 1 || none.Marks() != 0 {
		t.Error("marks are gone")
	}
}

// P6.1: of no store: ErrNil, whatever the tree.
func TestNewOfNoStore(t *testing.T) {
	copied := *store(t, 4, 100, 1)
	for name, s := range map[string]*undo.Store{"nil": nil, "none": {}, "a copy": &copied} {
		for _, id := range []int{-1, 0, 1, 2} {
			if c, err := New(s, id); c != nil || err != api.ErrNil {
				t.Errorf("%s: %v, error %d", name, c, err)
			}
		}
	}
}

// P6.1: the numbers of trees are those of now: of a tree that is put back there are cursors again, of one that is put away none.
func TestNewBehindBack(t *testing.T) {
	s := store(t, 4, 100, 1)
	mark(t, s)
	drop(t, s, 1)
	create(t, s)
	cursor(t, s, 2)
	back(t, s, 1)
	cursor(t, s, 1)
	if _, err := New(s, 2); err != api.ErrRoot {
		t.Errorf("error %d", err)
	}
}

// P6.3: a cursor is valid while the tree has its key; it tells the value that it has now.
func TestValid(t *testing.T) {
	s, c := few(t, "a", "b")
	c.Rewind()
	isAt(t, c, "a")
	if was, err := s.Put(1, []byte("a"), []byte("new")); !was || err != api.OK {
		t.Fatal(was, err)
	}
	if !c.Valid() || string(c.Key()) != "a" || string(c.Value()) != "new" {
		t.Errorf("at %q %q", c.Key(), c.Value())
	}
	take(t, s, 1, "a")
	isInvalid(t, c)
	put(t, s, 1, "a")
	isAt(t, c, "a")
	drop(t, s, 1)
	isInvalid(t, c)
}

// P6.3: a key and a value may be of no bytes.
func TestNoBytes(t *testing.T) {
	_, c := few(t)
	isInvalid(t, c)
	if was, err := c.Insert(nil, nil); was || err != api.OK {
		t.Fatal(was, err)
	}
	if !c.Valid() || len(c.Key()) != 0 || len(c.Value()) != 0 {
		t.Errorf("at %q %q", c.Key(), c.Value())
	}
	if was, err := c.Insert([]byte{}, []byte("v")); !was || err != api.OK || string(c.Value()) != "v" {
		t.Errorf("%v, error %d, %q", was, err, c.Value())
	}
	if was, err := c.Insert([]byte("b"), []byte{}); was || err != api.OK || !c.Valid() || len(c.Value()) != 0 {
		t.Errorf("%v, error %d, %q", was, err, c.Value())
	}
	if !c.Prev() || !c.Valid() || len(c.Key()) != 0 || c.Prev() {
		t.Errorf("at %q", c.Key())
	}
	if !c.Rewind() || !c.Next() || string(c.Key()) != "b" {
		t.Errorf("at %q", c.Key())
	}
	if !c.Rewind() || c.Delete() != api.OK || c.Valid() || c.Delete() != api.ErrNow || !c.Next() || string(c.Key()) != "b" {
		t.Errorf("at %q", c.Key())
	}
}

// P6.3: Insert puts an entry, tells whether its key was there, and is at it.
func TestInsert(t *testing.T) {
	s, c := few(t, "b")
	for _, one := range []struct {
		key, val string
		was      bool
	}{{"c", "[c]", false}, {"a", "[a]", false}, {"b", "new", true}, {"b", "[b]", true}, {"bb", "[bb]", false}} {
		was, err := c.Insert([]byte(one.key), []byte(one.val))
		if was != one.was || err != api.OK || !c.Valid() || string(c.Key()) != one.key || string(c.Value()) != one.val {
			t.Errorf("Insert(%q): %v, error %d; at %q %q", one.key, was, err, c.Key(), c.Value())
		}
	}
	if s.Len(1) != 4 || s.Check() != api.OK {
		t.Errorf("%d entries", s.Len(1))
	}
	if !c.Next() {
		t.Error("nothing behind bb")
	}
	isAt(t, c, "c")
}

// P6.3: where Insert is refused, Put's error is told, nothing changes, and the cursor stays where it was.
func TestInsertRefused(t *testing.T) {
	s := store(t, 4, 1, 1)
	put(t, s, 1, "a", "b", "c", "e")
	at, out := cursor(t, s, 1), cursor(t, s, 1)
	at.Seek(api.SeekGE, []byte("b"))
	for _, one := range []struct {
		key, val []byte
		err      api.Errno
	}{
		{[]byte("d"), nil, api.ErrFull},
		{long(api.MaxRow + 1), nil, api.ErrLong},
		{[]byte("a"), long(api.MaxRow + 1), api.ErrLong},
	} {
		for _, c := range []*Cursor{at, out} {
			if was, err := c.Insert(one.key, one.val); was || err != one.err {
				t.Errorf("%v, error %d, not %d", was, err, one.err)
			}
		}
		isAt(t, at, "b")
		isNowhere(t, out)
	}
	if s.Len(1) != 4 {
		t.Errorf("%d entries", s.Len(1))
	}
	if was, err := at.Insert([]byte("e"), []byte("[e]")); !was || err != api.OK {
		t.Errorf("%v, error %d", was, err)
	}
	isAt(t, at, "e")
	mark(t, s)
	drop(t, s, 1)
	for _, c := range []*Cursor{at, out} {
		if was, err := c.Insert(long(api.MaxRow+1), nil); was || err != api.ErrRoot {
			t.Errorf("%v, error %d", was, err)
		}
	}
	back(t, s, 1)
	isAt(t, at, "e")
	isNowhere(t, out)
}

// P6.3, limits: keys and values of as many bytes as layer 4 has.
func TestLongest(t *testing.T) {
	_, c := few(t, "a")
	key := long(api.MaxRow)
	if was, err := c.Insert(key, key); was || err != api.OK || len(c.Key()) != api.MaxRow || len(c.Value()) != api.MaxRow {
		t.Fatalf("%v, error %d", was, err)
	}
	if !c.Prev() || !c.Next() || len(c.Key()) != api.MaxRow || !c.Valid() {
		t.Error("the longest key is not come to")
	}
	if c.Seek(api.SeekGE, long(api.MaxRow+1)) || !c.Seek(api.SeekLE, long(api.MaxRow+1)) || len(c.Key()) != api.MaxRow {
		t.Error("a key that is too long may be sought, too")
	}
	if c.Delete() != api.OK || c.Valid() || !c.Prev() {
		t.Error("the longest key is not deleted")
	}
}

// P6.3: Delete takes the entry where the cursor is; it stays at its key.
func TestDelete(t *testing.T) {
	s, c := few(t, "a", "b", "c")
	c.Seek(api.SeekGE, []byte("b"))
	if err := c.Delete(); err != api.OK || s.Len(1) != 2 {
		t.Fatalf("error %d, %d entries", err, s.Len(1))
	}
	isInvalid(t, c)
	if err := c.Delete(); err != api.ErrNow || s.Len(1) != 2 {
		t.Errorf("error %d, %d entries", err, s.Len(1))
	}
	put(t, s, 1, "b")
	isAt(t, c, "b")
	if err := c.Delete(); err != api.OK || !c.Prev() {
		t.Errorf("error %d", err)
	}
	isAt(t, c, "a")
	c.Next()
	isAt(t, c, "c")
	if got := s.Check(); got != api.OK {
		t.Errorf("Check: error %d", got)
	}
}

// P6.3: Delete's errors, in their order: no tree, then not valid. Nothing changes: the cursor is still where it was.
func TestDeleteRefused(t *testing.T) {
	s, c := few(t, "a", "b")
	out, gone := cursor(t, s, 1), cursor(t, s, 1)
	c.Rewind()
	gone.Last()
	take(t, s, 1, "b")
	if err := out.Delete(); err != api.ErrNow {
		t.Errorf("nowhere: error %d", err)
	}
	if err := gone.Delete(); err != api.ErrNow {
		t.Errorf("not valid: error %d", err)
	}
	mark(t, s)
	drop(t, s, 1)
	for _, c := range []*Cursor{c, out, gone} {
		if err := c.Delete(); err != api.ErrRoot {
			t.Errorf("no tree: error %d", err)
		}
	}
	back(t, s, 1)
	isAt(t, c, "a")
	isNowhere(t, out)
	if !gone.Prev() {
		t.Error("it is not at b any more")
	}
	isAt(t, gone, "a")
	if s.Len(1) != 1 {
		t.Errorf("%d entries", s.Len(1))
	}
}

// The chapter's first example.
func TestExampleWalk(t *testing.T) {
	_, c := few(t, "a", "c")
	if !c.Seek(api.SeekGE, []byte("b")) {
		t.Fatal("no c")
	}
	isAt(t, c, "c")
	if !c.Prev() {
		t.Fatal("no a")
	}
	isAt(t, c, "a")
	if err := c.Delete(); err != api.OK {
		t.Fatalf("error %d", err)
	}
	isInvalid(t, c)
	if !c.Next() {
		t.Fatal("no c")
	}
	isAt(t, c, "c")
	if was, err := c.Insert([]byte("b"), []byte("1")); was || err != api.OK || string(c.Key()) != "b" || string(c.Value()) != "1" {
		t.Fatalf("%v, error %d, at %q %q", was, err, c.Key(), c.Value())
	}
	if !c.Next() {
		t.Fatal("no c")
	}
	isAt(t, c, "c")
	if c.Next() || c.Next() {
		t.Error("something is behind c")
	}
	isNowhere(t, c)
}

// The chapter's second example.
func TestExampleBack(t *testing.T) {
	s, c := few(t, "b")
	mark(t, s)
	put(t, s, 1, "a")
	c.Rewind()
	isAt(t, c, "a")
	back(t, s, 1)
	isInvalid(t, c)
	if !c.Next() {
		t.Fatal("no b")
	}
	isAt(t, c, "b")
}
