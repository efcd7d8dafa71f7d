package tree

import (
	"maps"

	"cardindex/api"
)

// forest is all trees; which number the next one has; how many nodes they have.
type forest struct {
	trees map[int]tree
	next  int
	nodes int
}

// Saved is an arena's trees, as they were.
type Saved struct {
	self *Saved // where Save made it
	of   *Arena
	then forest
}

// Save is all trees, as they are now.
func (a *Arena) Save() *Saved {
	if !a.isMade() {
		return nil
	}
	a.shared = a.last
	s := &Saved{of: a, then: a.now.copy()}
	s.self = s
	return s
}

// Load has all trees be as they were when s was saved.
func (a *Arena) Load(s *Saved) api.Errno {
	if !a.isMade() {
		return api.ErrNil
	}
	if s == nil || s.self != s || s.of != a {
		return api.ErrArg
	}
	a.now = s.then.copy()
	return api.OK
}

// copy shares no map with f, but all nodes.
func (f forest) copy() forest {
	f.trees = maps.Clone(f.trees)
	return f
}
