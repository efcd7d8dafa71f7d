package cursor

import (
	"bytes"
	"slices"
	"testing"

	"cardindex/api"
)

// memory_test.go: R3, what is handed in and out; R5, objects that are none.

// isWhole: what was handed in is not changed, its spare room neither.
func isWhole(t *testing.T, b []byte, want string) {
	t.Helper()
	if string(b) != want || !bytes.Equal(b[:cap(b)][len(b):], make([]byte, cap(b)-len(b))) {
		t.Fatalf("%q is changed", b[:cap(b)])
	}
}

// R3: what is inserted, or sought, is not kept.
func TestWhatIsHandedInIsNotKept(t *testing.T) {
	_, c := few(t)
	for i := range 50 {
		key, val := roomy(keyOf(i)), roomy(valOf(keyOf(i)))
		if _, err := c.Insert(key, val); err != api.OK {
			t.Fatalf("error %d", err)
		}
		isWhole(t, key, keyOf(i))
		isWhole(t, val, valOf(keyOf(i)))
		spoil(key)
		spoil(val)
		isAt(t, c, keyOf(i))
	}
	for _, how := range []api.Seek{api.SeekGE, api.SeekLE} {
		key := roomy(keyOf(25))
		if !c.Seek(how, key) {
			t.Fatal("not there")
		}
		isWhole(t, key, keyOf(25))
		spoil(key)
		isAt(t, c, keyOf(25))
		c.Next()
		isAt(t, c, keyOf(26))
	}
}

// R3: what is told is new: neither the cursor's, nor the store's, nor that of another answer.
func TestWhatIsToldIsNew(t *testing.T) {
	s, c := few(t, keysTo(30)...)
	for i, ok := 0, c.Rewind(); ok; i, ok = i+1, c.Next() {
		key, val := c.Key(), c.Value()
		spoil(c.Key())
		spoil(c.Value())
		if string(key) != keyOf(i) || string(val) != valOf(keyOf(i)) {
			t.Fatal("two answers share memory")
		}
		spoil(key)
		spoil(val)
		isAt(t, c, keyOf(i))
	}
	if got := forth(c); !slices.Equal(got, keysTo(30)) || s.Check() != api.OK {
		t.Errorf("%q", got)
	}
	// What was told stays as it is, whatever becomes of the entry.
	c.Rewind()
	key, val := c.Key(), c.Value()
	c.Insert([]byte(keyOf(0)), []byte("new"))
	c.Delete()
	c.Next()
	if string(key) != keyOf(0) || string(val) != valOf(keyOf(0)) {
		t.Errorf("%q %q", key, val)
	}
}

// R5: a cursor that no call made answers zeros, and ErrNil, ahead of all other errors.
func TestNoCursor(t *testing.T) {
	s, whole := few(t, "a", "b", "c")
	whole.Seek(api.SeekGE, []byte("b"))
	copied := *whole
	for name, c := range map[string]*Cursor{"nil": nil, "none": {}, "new": new(Cursor), "a copy": &copied} {
		moves(func(call string, how api.Seek) {
			if move(c, call, how, "b") {
				t.Errorf("%s: %s(%d)", name, call, how)
			}
		})
		if c.Valid() || c.Key() != nil || c.Value() != nil {
			t.Errorf("%s: at %q %q", name, c.Key(), c.Value())
		}
		for _, key := range [][]byte{nil, []byte("d"), long(api.MaxRow + 1)} {
			if was, err := c.Insert(key, nil); was || err != api.ErrNil {
				t.Errorf("%s: Insert %v, error %d", name, was, err)
			}
		}
		if err := c.Delete(); err != api.ErrNil {
			t.Errorf("%s: Delete error %d", name, err)
		}
	}
	isAt(t, whole, "b")
	if got := forth(whole); !slices.Equal(got, []string{"a", "b", "c"}) || s.Check() != api.OK {
		t.Errorf("%q", got)
	}
	drop(t, s, 1)
	if err := copied.Delete(); err != api.ErrNil {
		t.Errorf("a copy of a tree that is gone: error %d", err)
	}
}
