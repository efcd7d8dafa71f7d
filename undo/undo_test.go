package undo

import (
	"math"
	"reflect"
	"slices"
	"testing"

	"cardindex/api"
	"cardindex/tree"
)

// undo_test.go: P5.1, stores, and the calls of their arenas.

// P5.1: New's error is tree.New's; else there are no trees, and no marks.
func TestNew(t *testing.T) {
	for _, fan := range []int{4, 5, 64, 3, 65, 0, -4, math.MinInt, math.MaxInt} {
		for _, most := range []int{1, 10, 1 << 16, 0, -1, 1<<16 + 1, math.MinInt, math.MaxInt} {
			_, want := tree.New(fan, most)
			s, err := New(fan, most)
			if err != want || (s != nil) != (err == api.OK) {
				t.Errorf("New(%d, %d): %v, error %d, not %d", fan, most, s, err, want)
			}
			if s != nil && (len(s.Trees()) != 0 || s.Marks() != 0 || s.Nodes() != 0 || s.Check() != api.OK || s.Back(1) != api.ErrMark) {
				t.Errorf("New(%d, %d) has something", fan, most)
			}
		}
	}
	if s, err := New(3, 0); s != nil || err != api.ErrArg {
		t.Errorf("%v, error %d", s, err)
	}
}

// P5.1: fan and most are the arena's.
func TestFanAndMost(t *testing.T) {
	for _, fan := range []int{4, 5, 64} {
		s := store(t, fan, 3, 1)
		fill(t, s, 1, 0, fan)
		if s.Nodes() != 1 {
			t.Errorf("fan %d: %d nodes of %d entries", fan, s.Nodes(), fan)
		}
		fill(t, s, 1, fan, 1)
		if s.Nodes() != 3 {
			t.Errorf("fan %d: %d nodes of %d entries", fan, s.Nodes(), fan+1)
		}
		if id, err := s.Create(); id != 0 || err != api.ErrFull {
			t.Errorf("fan %d: %d, error %d", fan, id, err)
		}
	}
}

// P5.1: calls answer as those of an arena do to which the same was done.
func TestCallsAreTheArenas(t *testing.T) {
	for _, fan := range []int{4, 7, 64} {
		for _, most := range []int{1, 2, 5, 40, 1000} {
			s, w, c := store(t, fan, most, 0), newTwin(fan, most), chance(fan*most)
			for i := range 1000 {
				d := someDeed(w, c.below, 20*fan, i/200%2 == 0)
				if got, want := doTo(s, d), w.do(d); got != want {
					t.Fatalf("%c %d %q: %s, not %s", d.what, d.id, d.key, got, want)
				}
				if i%50 == 0 {
					w.hold(t, s)
				}
			}
			w.hold(t, s)
		}
	}
}

// P5.1: Put's errors, in layer 4's order, and nothing changes (R2).
func TestPutRefuses(t *testing.T) {
	s := store(t, 4, 1, 1)
	fill(t, s, 1, 0, 4)
	mark(t, s, 1)
	before, beyond := text(s), long(api.MaxRow+1)
	for _, c := range []struct {
		id       int
		key, val []byte
		want     api.Errno
	}{
		{2, beyond, beyond, api.ErrRoot}, {0, nil, nil, api.ErrRoot}, {-1, nil, nil, api.ErrRoot}, {math.MaxInt, nil, nil, api.ErrRoot}, {math.MinInt, nil, nil, api.ErrRoot},
		{1, beyond, nil, api.ErrLong}, {1, nil, beyond, api.ErrLong}, {1, nil, nil, api.ErrFull}, {1, long(api.MaxRow), long(api.MaxRow), api.ErrFull},
	} {
		if there, err := s.Put(c.id, c.key, c.val); there || err != c.want || text(s) != before {
			t.Errorf("Put(%d, %d bytes, %d bytes): %v, error %d, not %d", c.id, len(c.key), len(c.val), there, err, c.want)
		}
	}
	if there, err := s.Put(1, []byte(keyOf(2)), []byte("other")); !there || err != api.OK {
		t.Errorf("in place of one that is there: %v, error %d", there, err)
	}
	if v, ok := s.Get(1, []byte(keyOf(2))); string(v) != "other" || !ok {
		t.Errorf("%q, %v", v, ok)
	}
}

// P5.1: Delete's and Drop's errors; what is not there is no error to Delete.
func TestDeleteAndDropRefuse(t *testing.T) {
	s := store(t, 4, 10, 3)
	put(t, s, 1, "a", "v")
	drop(t, s, 2)
	mark(t, s, 1)
	before := text(s)
	for _, id := range []int{2, 4, 0, -1, math.MinInt, math.MaxInt} {
		if err := s.Drop(id); err != api.ErrRoot || text(s) != before {
			t.Errorf("Drop(%d): error %d", id, err)
		}
		if was, err := s.Delete(id, []byte("a")); was || err != api.ErrRoot || text(s) != before {
			t.Errorf("Delete(%d): %v, error %d", id, was, err)
		}
	}
	if was, err := s.Delete(1, []byte("b")); was || err != api.OK || text(s) != before {
		t.Errorf("%v, error %d", was, err)
	}
	if was, err := s.Delete(1, []byte("a")); !was || err != api.OK || s.Len(1) != 0 {
		t.Errorf("%v, error %d", was, err)
	}
}

// P5.1: Trees tells the numbers of all trees, rising, whichever are dropped, and in whichever order.
func TestTrees(t *testing.T) {
	s := store(t, 4, 100, 6)
	hold := func(want ...int) {
		t.Helper()
		if !slices.Equal(s.Trees(), want) {
			t.Fatalf("%v, not %v", s.Trees(), want)
		}
	}
	hold(1, 2, 3, 4, 5, 6)
	drop(t, s, 4)
	hold(1, 2, 3, 5, 6)
	drop(t, s, 1)
	hold(2, 3, 5, 6)
	create(t, s, 7)
	hold(2, 3, 5, 6, 7)
	drop(t, s, 7)
	hold(2, 3, 5, 6)
	create(t, s, 8)
	hold(2, 3, 5, 6, 8)
	for _, id := range []int{5, 2, 8, 3, 6} {
		drop(t, s, id)
	}
	hold()
	create(t, s, 9)
	hold(9)
}

// P5.1: a tree that is not made is not told.
func TestTreesOfAFullStore(t *testing.T) {
	s := store(t, 4, 2, 2)
	for range 2 {
		if id, err := s.Create(); id != 0 || err != api.ErrFull || !slices.Equal(s.Trees(), []int{1, 2}) {
			t.Errorf("%d, error %d, trees %v", id, err, s.Trees())
		}
	}
	s = store(t, 4, api.MaxNodes, api.MaxTrees)
	if id, err := s.Create(); id != 0 || err != api.ErrFull || len(s.Trees()) != api.MaxTrees {
		t.Errorf("%d, error %d, %d trees", id, err, len(s.Trees()))
	}
	drop(t, s, 500)
	create(t, s, api.MaxTrees+1)
	if l := s.Trees(); len(l) != api.MaxTrees || !slices.IsSorted(l) || slices.Contains(l, 500) || l[len(l)-1] != api.MaxTrees+1 {
		t.Errorf("%d trees", len(l))
	}
}

// A store shows the chapter's calls alone: by an arena's Save and Load trees could be put back past its marks.
func TestCallsOfAStore(t *testing.T) {
	want := []string{"After", "Back", "Before", "Check", "Create", "Delete", "Drop", "Free", "Get", "Last", "Len", "Mark", "Marks", "Nodes", "Put", "Trees"}
	var got []string
	of := reflect.TypeFor[*Store]()
	for i := range of.NumMethod() {
		got = append(got, of.Method(i).Name)
	}
	if !slices.Equal(got, want) {
		t.Errorf("%v, not %v", got, want)
	}
	for i := range of.Elem().NumField() {
		if f := of.Elem().Field(i); f.IsExported() {
			t.Errorf("%s is to be seen", f.Name)
		}
	}
}
