package sorter

import (
	"bytes"
	"slices"

	"cardindex/api"
)

// Sort puts its rows in the order of their keys.
func (s *Sorter) Sort() api.Errno {
	if err := s.missing(false); err != api.OK {
		return err
	}
	entries := inOrder(s.added, func(x, y entry) bool {
		return bytes.Compare(x.key, y.key) < 0
	})
	if s.distinct {
		entries = slices.CompactFunc(entries, func(x, y entry) bool {
			return bytes.Equal(x.key, y.key)
		})
	}
	s.rows = make([][]byte, len(entries))
	for i, e := range entries {
		s.rows[i] = e.row
	}
	s.added, s.sorted = nil, true
	return api.OK
}

// inOrder is a list such that none comes first of the one ahead of it; those of which neither does stay as they are.
func inOrder[T any](list []T, first func(x, y T) bool) []T {
	if len(list) < 2 {
		return list
	}
	half := len(list) / 2
	return merged(inOrder(list[:half], first), inOrder(list[half:], first), first)
}

// merged is two lists that are in order as one that is. Of two of which neither comes first, that of a is put ahead: all of a was ahead of b.
func merged[T any](a, b []T, first func(x, y T) bool) []T {
	out := make([]T, 0, len(a)+len(b))
	for len(a) > 0 && len(b) > 0 {
		if first(b[0], a[0]) {
			out, b = append(out, b[0]), b[1:]
		} else {
			out, a = append(out, a[0]), a[1:]
		}
	}
	return append(append(out, a...), b...)
}
