package tree

import (
	"testing"

	"cardindex/api"
)

// save_test.go: P4.5, arenas saved, and loaded.

// P4.5: all is as it was, node by node, as often as it is loaded, whatever was done meanwhile.
func TestLoadPutsBack(t *testing.T) {
	for _, fan := range []int{4, 5, 64} {
		a := arena(t, fan, 1000, 2)
		fill(t, a, 1, 100, 200)
		before := text(a)
		s := a.Save()
		meanwhile := map[string]func(){
			"nothing": func() {},
			"more":    func() { fill(t, a, 1, 300, 100); fill(t, a, 1, 0, 100) },
			"less": func() {
				for i := range 200 {
					remove(t, a, 1, keyOf(100+i))
				}
			},
			"others": func() {
				for i := range 200 {
					a.Put(1, []byte(keyOf(100+i)), []byte("other"))
				}
			},
			"half": func() {
				for i := range 100 {
					remove(t, a, 1, keyOf(100+2*i))
				}
			},
			"no tree": func() { drop(t, a, 1); drop(t, a, 2) },
			"trees":   func() { a.Create(); fill(t, a, 3, 0, 100); a.Create() },
			"saved":   func() { a.Save(); fill(t, a, 2, 0, 50); a.Save(); drop(t, a, 1) },
			"loaded":  func() { a.Load(s); remove(t, a, 1, keyOf(150)); put(t, a, 2, "a", "v") },
		}
		for range 2 {
			for name, do := range meanwhile {
				do()
				if err := a.Load(s); err != api.OK || text(a) != before {
					t.Fatalf("%s: error %d, or other nodes", name, err)
				}
				holdShape(t, a)
			}
		}
	}
}

// P4.5: what was saved at one time and another may be loaded in any order.
func TestLoadInAnyOrder(t *testing.T) {
	a := arena(t, 4, 1000, 1)
	c := chance(5)
	var saved []*Saved
	var texts []string
	for i := range 60 {
		for range 10 {
			key := []byte(keyOf(c.below(100)))
			if c.below(3) == 0 {
				a.Delete(1, key)
			} else {
				a.Put(1, key, []byte(keyOf(i)))
			}
		}
		saved = append(saved, a.Save())
		texts = append(texts, text(a))
	}
	for range 500 {
		i := c.below(len(saved))
		if err := a.Load(saved[i]); err != api.OK || text(a) != texts[i] {
			t.Fatalf("error %d, or other nodes", err)
		}
		holdShape(t, a)
		for range c.below(20) {
			a.Put(1, []byte(keyOf(c.below(100))), []byte("other"))
			a.Delete(1, []byte(keyOf(c.below(100))))
		}
		if c.below(4) == 0 {
			saved, texts = append(saved, a.Save()), append(texts, text(a))
		}
	}
}

// P4.5: which number Create tells next is as it was, too.
func TestLoadPutsNumbersBack(t *testing.T) {
	a := arena(t, 4, 10, 2)
	drop(t, a, 2)
	s := a.Save()
	for range 2 {
		if root, err := a.Create(); root != 3 || err != api.OK {
			t.Errorf("%d, error %d", root, err)
		}
		if root, err := a.Create(); root != 4 || err != api.OK {
			t.Errorf("%d, error %d", root, err)
		}
		drop(t, a, 1)
		if err := a.Load(s); err != api.OK || a.Nodes() != 1 || a.Deep(1) != 1 || a.Deep(2) != 0 || a.Deep(3) != 0 {
			t.Errorf("error %d, %d nodes", err, a.Nodes())
		}
	}
}

// P4.5: nothing is wanting for loading, nor for going on after it: what is saved takes no nodes.
func TestLoadOnAFullArena(t *testing.T) {
	a := arena(t, 4, 3, 1)
	empty := a.Save()
	fill(t, a, 1, 0, 6)
	full := a.Save()
	for range 5 {
		if err := a.Load(empty); err != api.OK || a.Nodes() != 1 || a.Len(1) != 0 {
			t.Fatalf("error %d, %d nodes", err, a.Nodes())
		}
		a.Create()
		a.Create()
		if _, err := a.Create(); err != api.ErrFull {
			t.Fatalf("error %d", err)
		}
		if err := a.Load(full); err != api.OK || a.Nodes() != 3 || a.Len(1) != 6 || a.Deep(2) != 0 {
			t.Fatalf("error %d, %d nodes", err, a.Nodes())
		}
		if _, err := a.Create(); err != api.ErrFull {
			t.Fatalf("error %d", err)
		}
		for i := range 6 {
			remove(t, a, 1, keyOf(i))
		}
		fill(t, a, 1, 0, 6)
		holdShape(t, a)
	}
}

// P4.5: what this arena did not save is refused, and nothing changes.
func TestLoadRefuses(t *testing.T) {
	a, other := arena(t, 4, 10, 1), arena(t, 4, 10, 2)
	put(t, a, 1, "a", "v")
	before := text(a)
	copied := *a.Save()
	for name, s := range map[string]*Saved{"nil": nil, "none": {}, "another's": other.Save(), "a copy": &copied} {
		if err := a.Load(s); err != api.ErrArg || text(a) != before {
			t.Errorf("%s: error %d", name, err)
		}
	}
}
