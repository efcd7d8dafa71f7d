package undo

import (
	"math"
	"slices"
	"testing"

	"cardindex/api"
)

// mark_test.go: P5.2, marks made, gone back to, and freed.

// The chapter's examples.
func TestExamples(t *testing.T) {
	s := store(t, 4, 100, 1)
	hold := func(want ...string) {
		t.Helper()
		if s.Len(1) != len(want)/2 {
			t.Errorf("%d entries, not %d", s.Len(1), len(want)/2)
		}
		for i := 0; i < len(want); i += 2 {
			if v, ok := s.Get(1, []byte(want[i])); !ok || string(v) != want[i+1] {
				t.Errorf("%s: %q, %v, not %s", want[i], v, ok, want[i+1])
			}
		}
		if !slices.Equal(s.Trees(), []int{1}) {
			t.Errorf("trees %v", s.Trees())
		}
	}
	put(t, s, 1, "a", "1")
	mark(t, s, 1)
	if there, err := s.Put(1, []byte("a"), []byte("2")); !there || err != api.OK {
		t.Errorf("%v, error %d", there, err)
	}
	put(t, s, 1, "b", "3")
	mark(t, s, 2)
	if was, err := s.Delete(1, []byte("a")); !was || err != api.OK {
		t.Errorf("%v, error %d", was, err)
	}
	create(t, s, 2)
	back(t, s, 2)
	hold("a", "2", "b", "3")
	back(t, s, 1)
	hold("a", "1")
	if err := s.Back(1); err != api.ErrMark {
		t.Errorf("error %d", err)
	}
	mark(t, s, 1)
	put(t, s, 1, "c", "4")
	free(t, s, 1)
	hold("a", "1", "c", "4")
	if s.Marks() != 0 {
		t.Errorf("%d marks", s.Marks())
	}
}

// P5.2: marks are numbered from 1 on without a gap, also behind Back and Free.
func TestNumbersOfMarks(t *testing.T) {
	s := store(t, 4, 10, 1)
	for n := range 5 {
		mark(t, s, n+1)
	}
	back(t, s, 4)
	mark(t, s, 4)
	free(t, s, 2)
	mark(t, s, 2)
	mark(t, s, 3)
	back(t, s, 1)
	mark(t, s, 1)
	free(t, s, 1)
	mark(t, s, 1)
}

// P5.2: there are MaxMarks marks at most; one more changes nothing (R2).
func TestMaxMarks(t *testing.T) {
	s := store(t, 4, 1000, 1)
	for n := range api.MaxMarks {
		mark(t, s, n+1)
		put(t, s, 1, keyOf(n), "v")
	}
	before := text(s)
	for range 2 {
		if n, err := s.Mark(); n != 0 || err != api.ErrFull || s.Marks() != api.MaxMarks || text(s) != before {
			t.Fatalf("%d, error %d, %d marks", n, err, s.Marks())
		}
	}
	free(t, s, api.MaxMarks)
	mark(t, s, api.MaxMarks)
	if n, err := s.Mark(); n != 0 || err != api.ErrFull {
		t.Fatalf("%d, error %d", n, err)
	}
	back(t, s, api.MaxMarks)
	if s.Len(1) != api.MaxMarks {
		t.Errorf("%d entries", s.Len(1))
	}
	for n := api.MaxMarks - 1; n > 0; n-- {
		back(t, s, n)
		if s.Len(1) != n-1 {
			t.Errorf("mark %d: %d entries", n, s.Len(1))
		}
	}
}

// P5.2: no such mark is ErrMark, and changes nothing.
func TestNoSuchMark(t *testing.T) {
	s := store(t, 4, 100, 2)
	refused := func(marks ...int) {
		t.Helper()
		before := text(s)
		for _, n := range marks {
			if err := s.Back(n); err != api.ErrMark || text(s) != before {
				t.Errorf("Back(%d): error %d", n, err)
			}
			if err := s.Free(n); err != api.ErrMark || text(s) != before {
				t.Errorf("Free(%d): error %d", n, err)
			}
		}
	}
	refused(0, 1, 2, -1, 100, math.MinInt, math.MaxInt)
	fill(t, s, 1, 0, 20)
	mark(t, s, 1)
	fill(t, s, 1, 20, 20)
	mark(t, s, 2)
	drop(t, s, 2)
	refused(0, 3, 4, -1, -2, 100, math.MinInt, math.MaxInt)
	mark(t, s, 3)
	free(t, s, 2)
	refused(2, 3, 4)
	back(t, s, 1)
	refused(0, 1, 2, 3)
	if s.Len(1) != 20 || !slices.Equal(s.Trees(), []int{1, 2}) {
		t.Errorf("%d entries, trees %v", s.Len(1), s.Trees())
	}
}

// P5.2: Back has entries and trees as they were at that mark, not at one above it or below it.
func TestBackToEach(t *testing.T) {
	for to := 1; to <= 6; to++ {
		s := store(t, 4, 1000, 1)
		var texts []string
		for n := range 6 {
			create(t, s, s.Trees()[len(s.Trees())-1]+1)
			fill(t, s, 1, 10*n, 10)
			if n == 3 {
				drop(t, s, 2)
				drop(t, s, 4)
			}
			texts = append(texts, text(s))
			mark(t, s, n+1)
		}
		s.Delete(1, []byte(keyOf(0)))
		drop(t, s, 3)
		back(t, s, to)
		if text(s) != texts[to-1] {
			t.Errorf("mark %d: %s\nnot %s", to, text(s), texts[to-1])
		}
		for n := to - 1; n > 0; n-- {
			back(t, s, n)
			if text(s) != texts[n-1] {
				t.Errorf("mark %d below %d: %s\nnot %s", n, to, text(s), texts[n-1])
			}
		}
	}
}

// P5.2: which number Create tells next is a mark's, too; Free leaves it.
func TestNumbersGoBack(t *testing.T) {
	s := store(t, 4, 100, 2)
	drop(t, s, 2)
	mark(t, s, 1)
	create(t, s, 3)
	mark(t, s, 2)
	create(t, s, 4)
	drop(t, s, 3)
	drop(t, s, 4)
	back(t, s, 2)
	create(t, s, 4)
	back(t, s, 1)
	create(t, s, 3)
	mark(t, s, 1)
	create(t, s, 4)
	drop(t, s, 4)
	free(t, s, 1)
	create(t, s, 5)
	if !slices.Equal(s.Trees(), []int{1, 3, 5}) {
		t.Errorf("trees %v", s.Trees())
	}
}

// P5.2: a mark's trees are not those that are changed since, whichever is dropped or made.
func TestTreesOfAMark(t *testing.T) {
	for dropped := 1; dropped <= 5; dropped++ {
		s := store(t, 4, 100, 5)
		mark(t, s, 1)
		drop(t, s, dropped)
		mark(t, s, 2)
		create(t, s, 6)
		drop(t, s, dropped%5+1)
		create(t, s, 7)
		back(t, s, 2)
		if want := slices.DeleteFunc([]int{1, 2, 3, 4, 5}, func(id int) bool { return id == dropped }); !slices.Equal(s.Trees(), want) {
			t.Errorf("trees %v, not %v", s.Trees(), want)
		}
		create(t, s, 6)
		back(t, s, 1)
		if !slices.Equal(s.Trees(), []int{1, 2, 3, 4, 5}) {
			t.Errorf("trees %v", s.Trees())
		}
	}
}

// P5.2: Free leaves all trees, and all marks below.
func TestFreeLeavesAllElse(t *testing.T) {
	for of := 1; of <= 4; of++ {
		s := store(t, 4, 1000, 1)
		var texts []string
		for n := range 4 {
			texts = append(texts, text(s))
			mark(t, s, n+1)
			fill(t, s, 1, 20*n, 20)
			create(t, s, n+2)
		}
		now := told(s, s.Trees())
		free(t, s, of)
		if told(s, s.Trees()) != now {
			t.Errorf("Free(%d) changes trees", of)
		}
		fill(t, s, 1, 100, 20)
		for n := of - 1; n > 0; n-- {
			back(t, s, n)
			if text(s) != texts[n-1] {
				t.Errorf("Free(%d), Back(%d): %s\nnot %s", of, n, text(s), texts[n-1])
			}
		}
	}
}

// P5.2: Back to a mark since which nothing was done changes nothing but marks.
func TestBackAtOnce(t *testing.T) {
	s := store(t, 4, 100, 0)
	for range 3 {
		mark(t, s, 1)
		mark(t, s, 2)
		now := told(s, s.Trees())
		back(t, s, 2)
		back(t, s, 1)
		if told(s, s.Trees()) != now {
			t.Errorf("%s\nnot %s", told(s, s.Trees()), now)
		}
		create(t, s, len(s.Trees())+1)
		fill(t, s, len(s.Trees()), 0, 20)
	}
}

// Of marks that are gone nothing is kept.
func TestMarksAreGone(t *testing.T) {
	s := store(t, 4, 100, 2)
	for _, gone := range []func(*testing.T, *Store, int){back, free} {
		for n := range 10 {
			mark(t, s, n+1)
		}
		gone(t, s, 3)
		for n, p := range s.has.marks[:cap(s.has.marks)] {
			if n >= 2 && (p.saved != nil || p.trees != nil) {
				t.Errorf("what mark %d had is kept", n+1)
			}
		}
		gone(t, s, 1)
	}
}
