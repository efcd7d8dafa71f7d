package undo

import (
	"bytes"
	"fmt"
	"slices"
	"strings"
	"testing"

	"cardindex/api"
	"cardindex/tree"
)

// some_test.go: what the tests are made of; a twin of a store, that goes back by doing all again.

// store is a new store with so many trees.
func store(t *testing.T, fan, most, trees int) *Store {
	t.Helper()
	s, err := New(fan, most)
	if err != api.OK || s == nil {
		t.Fatalf("New(%d, %d): error %d", fan, most, err)
	}
	for i := range trees {
		create(t, s, i+1)
	}
	return s
}

// create makes a tree, which has that number.
func create(t *testing.T, s *Store, want int) {
	t.Helper()
	if id, err := s.Create(); id != want || err != api.OK {
		t.Fatalf("Create: %d, error %d, not %d", id, err, want)
	}
}

// drop drops a tree that is there.
func drop(t *testing.T, s *Store, id int) {
	t.Helper()
	if err := s.Drop(id); err != api.OK {
		t.Fatalf("Drop(%d): error %d", id, err)
	}
}

// put puts an entry that is not there yet.
func put(t *testing.T, s *Store, id int, key, val string) {
	t.Helper()
	if there, err := s.Put(id, []byte(key), []byte(val)); there || err != api.OK {
		t.Fatalf("Put(%d, %q): %v, error %d", id, key, there, err)
	}
}

// mark makes a mark, which has that number.
func mark(t *testing.T, s *Store, want int) {
	t.Helper()
	if n, err := s.Mark(); n != want || err != api.OK {
		t.Fatalf("Mark: %d, error %d, not %d", n, err, want)
	}
}

// back goes back to a mark that is there.
func back(t *testing.T, s *Store, n int) {
	t.Helper()
	if err := s.Back(n); err != api.OK || s.Marks() != n-1 {
		t.Fatalf("Back(%d): error %d, %d marks", n, err, s.Marks())
	}
}

// free frees a mark that is there.
func free(t *testing.T, s *Store, n int) {
	t.Helper()
	if err := s.Free(n); err != api.OK || s.Marks() != n-1 {
		t.Fatalf("Free(%d): error %d, %d marks", n, err, s.Marks())
	}
}

// keyOf is the i-th of many keys, in their order.
func keyOf(i int) string { return fmt.Sprintf("%06d", i) }

// fill puts the keys from from on, so many.
func fill(t *testing.T, s *Store, id, from, many int) {
	t.Helper()
	for i := range many {
		put(t, s, id, keyOf(from+i), "v")
	}
}

// teller is what tells of trees: a store, and an arena.
type teller interface {
	Get(id int, key []byte) ([]byte, bool)
	After(id int, key []byte, at bool) ([]byte, []byte, bool)
	Before(id int, key []byte, at bool) ([]byte, []byte, bool)
	Last(id int) ([]byte, []byte, bool)
	Len(id int) int
	Nodes() int
	Check() api.Errno
}

// told is all that is told of the trees of those numbers, forth and back, and of keys that may not be there.
func told(s teller, ids []int) string {
	var out strings.Builder
	for _, id := range ids {
		fmt.Fprintf(&out, "\n%d: %d ", id, s.Len(id))
		for k, v, ok := s.After(id, nil, true); ok; k, v, ok = s.After(id, k, false) {
			got, is := s.Get(id, k)
			fmt.Fprintf(&out, "%q=%q=%q,%v ", k, v, got, is)
		}
		k, v, ok := s.Last(id)
		fmt.Fprintf(&out, "last %q=%q,%v ", k, v, ok)
		for at := true; ok; at = false {
			k, v, ok = s.Before(id, k, at)
			fmt.Fprintf(&out, "%q=%q ", k, v)
		}
		for _, probe := range []string{"", "1", "5\x00", "~"} {
			v, is := s.Get(id, []byte(probe))
			fmt.Fprintf(&out, "get %q,%v ", v, is)
			for _, at := range []bool{false, true} {
				k, v, ok = s.After(id, []byte(probe), at)
				fmt.Fprintf(&out, "after %q=%q,%v ", k, v, ok)
				k, v, ok = s.Before(id, []byte(probe), at)
				fmt.Fprintf(&out, "before %q=%q,%v ", k, v, ok)
			}
		}
	}
	fmt.Fprintf(&out, "\nnodes %d check %d", s.Nodes(), s.Check())
	return out.String()
}

// text is all that a store tells.
func text(s *Store) string {
	return fmt.Sprint(s.Trees(), s.Marks(), told(s, s.Trees()))
}

// deed is what was done to trees: by its first letter Create, Drop, Put or Delete.
type deed struct {
	what     byte
	id       int
	key, val string
}

// twin is an arena to which was done what counts: it has no marks of trees, but of how much had been done, and does that much again.
type twin struct {
	fan, most int
	a         *tree.Arena
	trees     []int
	deeds     []deed
	marks     []int
}

func newTwin(fan, most int) *twin {
	w := &twin{fan: fan, most: most}
	w.again(0)
	return w
}

// again does to a new arena the first deeds, so many.
func (w *twin) again(many int) {
	w.a, _ = tree.New(w.fan, w.most)
	deeds := w.deeds[:many]
	w.deeds, w.trees = nil, nil
	for _, d := range deeds {
		w.do(d)
	}
}

// do does d, which counts unless it is refused.
func (w *twin) do(d deed) (out string) {
	id, was, err := 0, false, api.OK
	switch d.what {
	case 'c':
		if id, err = w.a.Create(); err == api.OK {
			w.trees = append(slices.Clone(w.trees), id)
		}
	case 'd':
		if err = w.a.Drop(d.id); err == api.OK {
			w.trees = slices.DeleteFunc(slices.Clone(w.trees), func(id int) bool { return id == d.id })
		}
	case 'p':
		was, err = w.a.Put(d.id, []byte(d.key), []byte(d.val))
	case 'r':
		was, err = w.a.Delete(d.id, []byte(d.key))
	}
	if err == api.OK {
		w.deeds = append(w.deeds, d)
	}
	return fmt.Sprint(id, was, err)
}

// doTo does d to a store.
func doTo(s *Store, d deed) string {
	id, was, err := 0, false, api.OK
	switch d.what {
	case 'c':
		id, err = s.Create()
	case 'd':
		err = s.Drop(d.id)
	case 'p':
		was, err = s.Put(d.id, []byte(d.key), []byte(d.val))
	case 'r':
		was, err = s.Delete(d.id, []byte(d.key))
	}
	return fmt.Sprint(id, was, err)
}

// hold holds all that a store tells against its twin: what trees there are, what is in them, how they are laid out.
func (w *twin) hold(t *testing.T, s *Store) {
	t.Helper()
	if !slices.Equal(s.Trees(), w.trees) || s.Marks() != len(w.marks) {
		t.Fatalf("trees %v, not %v; %d marks, not %d", s.Trees(), w.trees, s.Marks(), len(w.marks))
	}
	ids := append([]int{-1, 0}, w.trees...)
	if len(w.trees) > 0 {
		ids = append(ids, w.trees[len(w.trees)-1]+1)
	}
	if got, want := told(s, ids), told(w.a, ids); got != want {
		t.Fatalf("%s\nnot %s", got, want)
	}
	for _, id := range ids {
		if s.has.Deep(id) != w.a.Deep(id) {
			t.Fatalf("tree %d is %d deep, not %d", id, s.has.Deep(id), w.a.Deep(id))
		}
	}
	if err := s.Check(); err != api.OK {
		t.Fatalf("Check: error %d", err)
	}
}

// chance tells numbers that look like none in particular, always the same.
type chance uint64

func (c *chance) below(n int) int {
	*c = *c*6364136223846793005 + 1442695040888963407
	return int(uint64(*c) >> 33 % uint64(n))
}

// spoil writes over all that b has, its spare room too.
func spoil(b []byte) {
	b = b[:cap(b)]
	for i := range b {
		b[i] = 0x55
	}
}

// roomy is s with spare room behind it.
func roomy(s string) []byte {
	return append(make([]byte, 0, len(s)+16), s...)
}

// long is n bytes.
func long(n int) []byte { return bytes.Repeat([]byte("x"), n) }
