package undo

import (
	"slices"

	"cardindex/api"
	"cardindex/tree"
)

// past is all trees as they were when a mark was made, and their numbers.
type past struct {
	saved *tree.Saved
	trees []int
}

// Mark is the number of a new mark.
func (s *Store) Mark() (int, api.Errno) {
	if !s.isMade() {
		return 0, api.ErrNil
	}
	g := s.held()
	if len(g.marks) >= api.MaxMarks {
		return 0, api.ErrFull
	}
	g.marks = append(g.marks, past{saved: g.Save(), trees: slices.Clone(g.trees)})
	return len(g.marks), api.OK
}

// Back has all trees be as they were at a mark; it is gone, and so are all above it.
func (s *Store) Back(mark int) api.Errno {
	p, err := s.find(mark)
	if err != api.OK {
		return err
	}
	g := s.held()
	if err = g.Load(p.saved); err != api.OK {
		return err
	}
	g.trees = p.trees
	g.forget(mark)
	return api.OK
}

// Free does away with a mark, and all above it; the trees stay.
func (s *Store) Free(mark int) api.Errno {
	if _, err := s.find(mark); err != api.OK {
		return err
	}
	s.held().forget(mark)
	return api.OK
}

// Marks is how many marks there are.
func (s *Store) Marks() int {
	return len(s.held().marks)
}

// find is what was at that mark.
func (s *Store) find(mark int) (past, api.Errno) {
	if !s.isMade() {
		return past{}, api.ErrNil
	}
	marks := s.held().marks
	if mark < 1 || mark > len(marks) {
		return past{}, api.ErrMark
	}
	return marks[mark-1], api.OK
}

// forget does away with that mark, which is there, and all above it. What they had is overwritten, so that it is kept no longer.
func (g *grove) forget(mark int) {
	g.marks = slices.Delete(g.marks, mark-1, len(g.marks))
}
