package undo

import (
	"fmt"
	"slices"
	"testing"

	"cardindex/api"
)

// follows_test.go: P5.3: whatever is done, what was done ahead of a mark is there behind Back to it, and nothing else.

// fillUp puts entries, then makes trees, till both are refused.
func fillUp(t *testing.T, s *Store, id int) {
	t.Helper()
	err := api.OK
	for i := 0; err == api.OK; i++ {
		_, err = s.Put(id, []byte(keyOf(i)), []byte("w"))
	}
	more := api.OK
	for more == api.OK {
		_, more = s.Create()
	}
	if err != api.ErrFull || more != api.ErrFull {
		t.Fatalf("errors %d and %d", err, more)
	}
}

// P5.3: Back is not refused where no node and no mark is free.
func TestBackOnAFullStore(t *testing.T) {
	for _, most := range []int{1, 2, 3, 7, 50} {
		s := store(t, 4, most, 1)
		fill(t, s, 1, 0, 4)
		early := told(s, s.Trees())
		mark(t, s, 1)
		fillUp(t, s, 1)
		full := told(s, s.Trees())
		for n := 2; n <= api.MaxMarks; n++ {
			mark(t, s, n)
		}
		for _, id := range s.Trees() {
			drop(t, s, id)
		}
		id, _ := s.Create()
		fillUp(t, s, id)
		if s.Nodes() != most {
			t.Fatalf("%d of %d nodes", s.Nodes(), most)
		}
		back(t, s, 2)
		if told(s, s.Trees()) != full || s.Nodes() != most {
			t.Errorf("%s\nnot %s", told(s, s.Trees()), full)
		}
		if _, err := s.Create(); err != api.ErrFull {
			t.Errorf("error %d", err)
		}
		back(t, s, 1)
		if told(s, s.Trees()) != early {
			t.Errorf("%s\nnot %s", told(s, s.Trees()), early)
		}
		// The nodes that were taken since are free again.
		for id := 2; id <= most; id++ {
			create(t, s, id)
		}
	}
}

// P5.3: so it is with as many trees as there may be.
func TestBackWithAllTrees(t *testing.T) {
	s := store(t, 4, api.MaxNodes, api.MaxTrees)
	mark(t, s, 1)
	for id := range 500 {
		drop(t, s, 2*id+1)
	}
	for n := range 500 {
		create(t, s, api.MaxTrees+n+1)
	}
	back(t, s, 1)
	l := s.Trees()
	if len(l) != api.MaxTrees || l[0] != 1 || l[api.MaxTrees-1] != api.MaxTrees || !slices.IsSorted(l) {
		t.Errorf("%d trees", len(l))
	}
	if id, err := s.Create(); id != 0 || err != api.ErrFull {
		t.Errorf("%d, error %d", id, err)
	}
}

// P5.3: marks take no room for what is put.
func TestMarksTakeNoNodes(t *testing.T) {
	s := store(t, 4, 3, 1)
	fill(t, s, 1, 0, 6)
	for n := range api.MaxMarks {
		mark(t, s, n+1)
		for i := range 6 {
			if was, err := s.Delete(1, []byte(keyOf(i))); !was || err != api.OK {
				t.Fatalf("%v, error %d", was, err)
			}
		}
		fill(t, s, 1, 0, 6)
		if s.Nodes() != 3 || s.Check() != api.OK {
			t.Fatalf("%d nodes", s.Nodes())
		}
	}
}

// someDeed is one thing or another, as next tells; now and then with a tree that is not there.
func someDeed(w *twin, next func(below int) int, keys int, growing bool) deed {
	d := deed{id: next(4) - 1, key: fmt.Sprint(next(keys)), val: fmt.Sprint(next(1000))}
	if len(w.trees) > 0 && next(20) > 0 {
		d.id = w.trees[next(len(w.trees))]
	}
	switch n := next(30); {
	case n == 0:
		d.what = 'c'
	case n == 1 && next(3) == 0:
		d.what = 'd'
	case growing == (n < 22):
		d.what = 'p'
	default:
		d.what = 'r'
	}
	return d
}

// mark makes a mark, or is refused as many are there.
func (w *twin) mark(t *testing.T, s *Store) {
	n, err := s.Mark()
	if len(w.marks) == api.MaxMarks {
		if n != 0 || err != api.ErrFull {
			t.Fatalf("Mark: %d, error %d", n, err)
		}
		return
	}
	w.marks = append(w.marks, len(w.deeds))
	if n != len(w.marks) || err != api.OK {
		t.Fatalf("Mark: %d, error %d, not %d", n, err, len(w.marks))
	}
}

// back goes back to that mark, or frees it, if it is there.
func (w *twin) back(t *testing.T, s *Store, n int, stay bool) {
	call := s.Back
	if stay {
		call = s.Free
	}
	err := call(n)
	if n < 1 || n > len(w.marks) {
		if err != api.ErrMark {
			t.Fatalf("mark %d of %d: error %d", n, len(w.marks), err)
		}
		return
	}
	if err != api.OK {
		t.Fatalf("mark %d of %d: error %d", n, len(w.marks), err)
	}
	if !stay {
		w.again(w.marks[n-1])
	}
	w.marks = w.marks[:n-1]
	w.hold(t, s)
}

// step is a deed, or something with marks.
func (w *twin) step(t *testing.T, s *Store, next func(below int) int, keys int, growing bool) {
	t.Helper()
	switch n := next(40); {
	case n < 3:
		w.mark(t, s)
	case n == 3:
		w.back(t, s, next(len(w.marks)+2), false)
	case n == 4:
		w.back(t, s, next(len(w.marks)+2), true)
	case n == 5:
		w.back(t, s, len(w.marks), next(2) == 0)
	default:
		d := someDeed(w, next, keys, growing)
		if got, want := doTo(s, d), w.do(d); got != want {
			t.Fatalf("%c %d %q: %s, not %s", d.what, d.id, d.key, got, want)
		}
	}
}

// P5.3: of many things done, trees are as the twin has them, to which was done just what counts: so also which node has which entries, which tells when nodes are wanting.
func TestWhateverIsDone(t *testing.T) {
	for _, fan := range []int{4, 5, 16, 64} {
		for _, most := range []int{1, 2, 3, 7, 20, 500} {
			s, w, c := store(t, fan, most, 0), newTwin(fan, most), chance(fan*most)
			for i := range 1500 {
				w.step(t, s, c.below, 10*fan, i/150%2 == 0)
				if i%100 == 0 {
					w.hold(t, s)
				}
			}
			for len(w.marks) > 0 {
				w.back(t, s, len(w.marks), false)
			}
			w.hold(t, s)
		}
	}
}

// P5.3: stores are apart, and so are their marks.
func TestStoresAreApart(t *testing.T) {
	s, other := store(t, 4, 100, 1), store(t, 4, 100, 2)
	put(t, s, 1, "a", "v")
	mark(t, s, 1)
	before := text(s)
	put(t, other, 1, "b", "w")
	if err := other.Back(1); err != api.ErrMark {
		t.Errorf("error %d", err)
	}
	mark(t, other, 1)
	drop(t, other, 1)
	back(t, other, 1)
	if text(s) != before {
		t.Errorf("%s\nnot %s", text(s), before)
	}
}

// P5.3: things done that nobody thought of.
func FuzzStore(f *testing.F) {
	f.Add(byte(0), byte(3), []byte("some things are done here, and others"))
	f.Add(byte(60), byte(200), []byte{10, 0, 0, 0, 0, 1, 9, 9, 9, 9, 9, 9, 3, 1, 1, 20, 20, 20, 20, 20, 20, 5, 1, 4, 1})
	f.Fuzz(func(t *testing.T, fan, most byte, b []byte) {
		s, w := store(t, 4+int(fan)%61, 1+int(most), 0), newTwin(4+int(fan)%61, 1+int(most))
		next := func(below int) int {
			if len(b) == 0 {
				return 0
			}
			n := int(b[0]) % below
			b = b[1:]
			return n
		}
		for i := 0; len(b) > 0 && i < 1000; i++ {
			w.step(t, s, next, 100, i/100%2 == 0)
		}
		w.hold(t, s)
	})
}
