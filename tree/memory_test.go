package tree

import (
	"bytes"
	"testing"

	"cardindex/api"
)

// memory_test.go: R3, what is handed in and out; R5, objects that are none.

// spoil writes over all that b has, its spare room too.
func spoil(b []byte) {
	b = b[:cap(b)]
	for i := range b {
		b[i] = 0x55
	}
}

// roomy is s with spare room behind it.
func roomy(s string) []byte {
	return append(make([]byte, 0, len(s)+16), s...)
}

// R3: what is put is not kept, nor is it changed, its spare room neither.
func TestWhatIsPutIsNotKept(t *testing.T) {
	a := arena(t, 4, 100, 1)
	for i := range 50 {
		key, val := roomy(keyOf(i)), roomy("v"+keyOf(i))
		a.Put(1, key, val)
		if string(key) != keyOf(i) || string(val) != "v"+keyOf(i) || !bytes.Equal(key[:cap(key)][len(key):], make([]byte, cap(key)-len(key))) {
			t.Fatal("what was put is changed")
		}
		spoil(key)
		spoil(val)
	}
	for i := range 50 {
		if v, ok := a.Get(1, []byte(keyOf(i))); !ok || string(v) != "v"+keyOf(i) {
			t.Fatalf("%q: %q, %v", keyOf(i), v, ok)
		}
	}
	holdShape(t, a)
}

// P4.3, R3: all bytes that are told are in memory of their own.
func TestWhatIsToldIsNew(t *testing.T) {
	a := arena(t, 4, 100, 1)
	fill(t, a, 1, 0, 50)
	s := a.Save()
	before := text(a)
	for i := -1; i <= 50; i++ {
		key := roomy(keyOf(max(i, 0)))
		v, _ := a.Get(1, key)
		spoil(v)
		for _, at := range []bool{false, true} {
			k, v, _ := a.After(1, key, at)
			spoil(k)
			spoil(v)
			k, v, _ = a.Before(1, key, at)
			spoil(k)
			spoil(v)
		}
		k, v, _ := a.Last(1)
		spoil(k)
		spoil(v)
		if string(key) != keyOf(max(i, 0)) {
			t.Fatal("what was asked for is changed")
		}
	}
	if text(a) != before {
		t.Error("what was told is the tree's")
	}
	a.Load(s)
	if text(a) != before {
		t.Error("what was told is what was saved")
	}
}

// R3: key and value of one answer share no memory.
func TestKeyAndValueAreApart(t *testing.T) {
	a := arena(t, 4, 100, 1)
	put(t, a, 1, "same", "same")
	for _, tell := range []func() ([]byte, []byte, bool){
		func() ([]byte, []byte, bool) { return a.After(1, nil, false) },
		func() ([]byte, []byte, bool) { return a.Before(1, []byte("t"), false) },
		func() ([]byte, []byte, bool) { return a.Last(1) },
	} {
		k, v, ok := tell()
		spoil(k)
		if !ok || string(v) != "same" {
			t.Errorf("%q, %v", v, ok)
		}
	}
}

// R5: an arena that no call made answers zeros, and ErrNil.
func TestNoArena(t *testing.T) {
	whole := arena(t, 4, 10, 1)
	put(t, whole, 1, "a", "v")
	copied := *whole
	for name, a := range map[string]*Arena{"nil": nil, "none": {}, "a copy": &copied} {
		if root, err := a.Create(); root != 0 || err != api.ErrNil {
			t.Errorf("%s: Create %d, error %d", name, root, err)
		}
		if err := a.Drop(1); err != api.ErrNil {
			t.Errorf("%s: Drop error %d", name, err)
		}
		if there, err := a.Put(1, long(api.MaxRow+1), nil); there || err != api.ErrNil {
			t.Errorf("%s: Put %v, error %d", name, there, err)
		}
		if there, err := a.Delete(1, []byte("a")); there || err != api.ErrNil {
			t.Errorf("%s: Delete %v, error %d", name, there, err)
		}
		if v, ok := a.Get(1, []byte("a")); v != nil || ok {
			t.Errorf("%s: Get %q, %v", name, v, ok)
		}
		if k, v, ok := a.After(1, nil, true); k != nil || v != nil || ok {
			t.Errorf("%s: After %q, %q, %v", name, k, v, ok)
		}
		if k, v, ok := a.Before(1, []byte("b"), true); k != nil || v != nil || ok {
			t.Errorf("%s: Before %q, %q, %v", name, k, v, ok)
		}
		if k, v, ok := a.Last(1); k != nil || v != nil || ok {
			t.Errorf("%s: Last %q, %q, %v", name, k, v, ok)
		}
		if a.Len(1) != 0 || a.Deep(1) != 0 || a.Nodes() != 0 {
			t.Errorf("%s: %d entries, %d deep, %d nodes", name, a.Len(1), a.Deep(1), a.Nodes())
		}
		if err := a.Check(); err != api.ErrNil {
			t.Errorf("%s: Check error %d", name, err)
		}
		if s := a.Save(); s != nil {
			t.Errorf("%s: Save %v", name, s)
		}
		for _, s := range []*Saved{nil, {}, whole.Save()} {
			if err := a.Load(s); err != api.ErrNil {
				t.Errorf("%s: Load error %d", name, err)
			}
		}
	}
	if entriesOf(whole, 1) != `"a"="v" ` {
		t.Error("what is done to a copy changes the arena")
	}
	holdShape(t, whole)
}
