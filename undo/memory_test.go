package undo

import (
	"bytes"
	"slices"
	"testing"

	"cardindex/api"
)

// memory_test.go: R3, what is handed in and out; R5, objects that are none.

// R3: what is put is not kept, nor is it changed, its spare room neither; nor is it a mark's.
func TestWhatIsPutIsNotKept(t *testing.T) {
	s := store(t, 4, 100, 1)
	for i := range 50 {
		key, val := roomy(keyOf(i)), roomy("v")
		s.Put(1, key, val)
		if string(key) != keyOf(i) || string(val) != "v" || !bytes.Equal(key[:cap(key)][len(key):], make([]byte, cap(key)-len(key))) {
			t.Fatal("what was put is changed")
		}
		if i == 25 {
			mark(t, s, 1)
		}
		spoil(key)
		spoil(val)
	}
	want := store(t, 4, 100, 1)
	fill(t, want, 1, 0, 26)
	back(t, s, 1)
	if text(s) != text(want) {
		t.Errorf("%s\nnot %s", text(s), text(want))
	}
}

// R3: what is told is new, and shares no memory with the store, nor with what its marks have.
func TestWhatIsToldIsNew(t *testing.T) {
	s := store(t, 4, 100, 3)
	fill(t, s, 1, 0, 30)
	before := told(s, s.Trees())
	spoilAll := func() {
		for i := -1; i <= 30; i++ {
			key := []byte(keyOf(max(i, 0)))
			v, _ := s.Get(1, key)
			spoil(v)
			for _, at := range []bool{false, true} {
				k, v, _ := s.After(1, key, at)
				spoil(k)
				spoil(v)
				k, v, _ = s.Before(1, key, at)
				spoil(k)
				spoil(v)
			}
			k, v, _ := s.Last(1)
			spoil(k)
			spoil(v)
			if string(key) != keyOf(max(i, 0)) {
				t.Fatal("what was asked for is changed")
			}
		}
		l := s.Trees()
		l = l[:cap(l)]
		for i := range l {
			l[i] = -7
		}
	}
	spoilAll()
	mark(t, s, 1)
	spoilAll()
	if !slices.Equal(s.Trees(), []int{1, 2, 3}) || told(s, s.Trees()) != before {
		t.Error("what was told is the store's")
	}
	create(t, s, 4)
	back(t, s, 1)
	spoilAll()
	if !slices.Equal(s.Trees(), []int{1, 2, 3}) || told(s, s.Trees()) != before {
		t.Error("what was told is the mark's")
	}
}

// R3: two lists of trees share no memory, their spare room neither; a list that was told stays as it is.
func TestListsOfTreesAreApart(t *testing.T) {
	s := store(t, 4, 100, 3)
	one, two := s.Trees(), s.Trees()
	one[0] = -1
	one, two = append(one, -2), append(two, -3)
	create(t, s, 4)
	drop(t, s, 1)
	if !slices.Equal(one, []int{-1, 2, 3, -2}) || !slices.Equal(two, []int{1, 2, 3, -3}) || !slices.Equal(s.Trees(), []int{2, 3, 4}) {
		t.Errorf("%v, %v, %v", one, two, s.Trees())
	}
}

// R5: a store that no call made answers zeros, and ErrNil, ahead of all other errors.
func TestNoStore(t *testing.T) {
	whole := store(t, 4, 10, 2)
	put(t, whole, 1, "a", "v")
	mark(t, whole, 1)
	before := text(whole)
	copied := *whole
	for name, s := range map[string]*Store{"nil": nil, "none": {}, "new": new(Store), "a copy": &copied} {
		if id, err := s.Create(); id != 0 || err != api.ErrNil {
			t.Errorf("%s: Create %d, error %d", name, id, err)
		}
		for _, id := range []int{1, 3, -1} {
			if err := s.Drop(id); err != api.ErrNil {
				t.Errorf("%s: Drop error %d", name, err)
			}
			if there, err := s.Put(id, long(api.MaxRow+1), nil); there || err != api.ErrNil {
				t.Errorf("%s: Put %v, error %d", name, there, err)
			}
			if was, err := s.Delete(id, []byte("a")); was || err != api.ErrNil {
				t.Errorf("%s: Delete %v, error %d", name, was, err)
			}
			if err := s.Back(id); err != api.ErrNil {
				t.Errorf("%s: Back error %d", name, err)
			}
			if err := s.Free(id); err != api.ErrNil {
				t.Errorf("%s: Free error %d", name, err)
			}
		}
		if n, err := s.Mark(); n != 0 || err != api.ErrNil {
			t.Errorf("%s: Mark %d, error %d", name, n, err)
		}
		if err := s.Check(); err != api.ErrNil {
			t.Errorf("%s: Check error %d", name, err)
		}
		holdNothing(t, name, s)
	}
	if text(whole) != before {
		t.Error("what is done to a copy changes the store")
	}
}

// holdNothing: of no store nothing is told.
func holdNothing(t *testing.T, name string, s *Store) {
	t.Helper()
	if v, ok := s.Get(1, []byte("a")); v != nil || ok {
		t.Errorf("%s: Get %q, %v", name, v, ok)
	}
	if k, v, ok := s.After(1, nil, true); k != nil || v != nil || ok {
		t.Errorf("%s: After %q, %q, %v", name, k, v, ok)
	}
	if k, v, ok := s.Before(1, []byte("b"), true); k != nil || v != nil || ok {
		t.Errorf("%s: Before %q, %q, %v", name, k, v, ok)
	}
	if k, v, ok := s.Last(1); k != nil || v != nil || ok {
		t.Errorf("%s: Last %q, %q, %v", name, k, v, ok)
	}
	if s.Len(1) != 0 || s.Nodes() != 0 || s.Marks() != 0 || len(s.Trees()) != 0 {
		t.Errorf("%s: %d entries, %d nodes, %d marks, trees %v", name, s.Len(1), s.Nodes(), s.Marks(), s.Trees())
	}
}
