package tree

import (
	"fmt"
	"testing"

	"cardindex/api"
)

// follows_test.go: P4.6: whatever is done, an arena has what its twin has, and its shape is right.

// pair is an arena and its twin; one that has the same done to it, but has more nodes than it needs; what was saved of all three.
type pair struct {
	a, loose *Arena
	w        *twin
	saved    []threeSaved
}

type threeSaved struct {
	s, loose *Saved
	w        *twin
	text     string
}

func newPair(t *testing.T, fan, most int) *pair {
	return &pair{a: arena(t, fan, most, 0), loose: arena(t, fan, api.MaxNodes, 0), w: newTwin()}
}

// create: refused if there is no node, or else the twin's number.
func (p *pair) create(t *testing.T) {
	root, err := p.a.Create()
	if p.a.most == p.loose.Nodes() {
		if root != 0 || err != api.ErrFull {
			t.Fatalf("no node is free: %d, error %d", root, err)
		}
		return
	}
	if root != p.w.next || err != api.OK {
		t.Fatalf("Create: %d, error %d, not %d", root, err, p.w.next)
	}
	p.w.trees[root] = map[string]string{}
	p.w.next++
	p.loose.Create()
}

func (p *pair) drop(t *testing.T, root int) {
	_, there := p.w.trees[root]
	if err := p.a.Drop(root); (err == api.OK) != there || !there && err != api.ErrRoot {
		t.Fatalf("Drop(%d): error %d", root, err)
	}
	p.loose.Drop(root)
	delete(p.w.trees, root)
}

// put: refused just if it takes the other arena more nodes than are free, and never if there is room.
func (p *pair) put(t *testing.T, root int, key, val string) {
	entries, ok := p.w.trees[root]
	if !ok {
		holdNoTree(t, p.a, root)
		return
	}
	_, was := entries[key]
	free, before := p.a.most-p.a.Nodes(), text(p.a)
	ahead := p.loose.Save()
	p.loose.Put(root, []byte(key), []byte(val))
	wanting := p.loose.Nodes() > p.a.most
	there, err := p.a.Put(root, []byte(key), []byte(val))
	if wanting {
		if was || free > p.a.Deep(root) {
			t.Fatalf("more nodes than may be: %d free, %d deep", free, p.a.Deep(root))
		}
		if there || err != api.ErrFull || text(p.a) != before {
			t.Fatalf("Put(%d, %q): %v, error %d, or something has changed", root, key, there, err)
		}
		p.loose.Load(ahead)
		return
	}
	if there != was || err != api.OK {
		t.Fatalf("Put(%d, %q): %v, error %d, not %v", root, key, there, err, was)
	}
	entries[key] = val
}

func (p *pair) remove(t *testing.T, root int, key string) {
	entries, ok := p.w.trees[root]
	if !ok {
		holdNoTree(t, p.a, root)
		return
	}
	_, was := entries[key]
	if there, err := p.a.Delete(root, []byte(key)); there != was || err != api.OK {
		t.Fatalf("Delete(%d, %q): %v, error %d, not %v", root, key, there, err, was)
	}
	p.loose.Delete(root, []byte(key))
	delete(entries, key)
}

func (p *pair) save() {
	p.saved = append(p.saved, threeSaved{p.a.Save(), p.loose.Save(), p.w.copy(), text(p.a)})
}

func (p *pair) load(t *testing.T, i int) {
	if len(p.saved) == 0 {
		return
	}
	s := p.saved[i%len(p.saved)]
	if err := p.a.Load(s.s); err != api.OK || text(p.a) != s.text {
		t.Fatalf("Load: error %d, or other nodes", err)
	}
	p.loose.Load(s.loose)
	p.w = s.w.copy()
}

// do is one thing or another, as next tells.
func (p *pair) do(t *testing.T, next func(below int) int, keys int, growing bool) {
	t.Helper()
	root := p.w.next
	if roots := p.w.sortedRoots(); len(roots) > 0 {
		root = roots[next(len(roots))]
	}
	key := fmt.Sprint(next(keys))
	switch n := next(40); {
	case n == 0:
		p.create(t)
	case n == 1 && next(4) == 0:
		p.drop(t, root)
	case n == 2:
		p.save()
	case n == 3:
		p.load(t, next(100))
	case growing == (n < 30):
		p.put(t, root, key, fmt.Sprint(n))
	default:
		p.remove(t, root, key)
	}
	if text(p.a) != text(p.loose) {
		t.Fatalf("one that has more nodes left has others:\n%s\n%s", text(p.a), text(p.loose))
	}
	holdShape(t, p.a)
}

// P4.6: of many things done, each one is as the twin has it.
func TestWhateverIsDone(t *testing.T) {
	for _, fan := range []int{4, 5, 6, 7, 16, 64} {
		for _, most := range []int{1, 2, 3, 5, 10, 40, 1000} {
			p, c := newPair(t, fan, most), chance(fan*most)
			for i := range 1500 {
				p.do(t, c.below, 20*fan, i/300%2 == 0)
				if i%100 == 0 {
					p.w.hold(t, p.a)
				}
			}
			p.w.hold(t, p.a)
		}
	}
}

// P4.6: what is done to one tree changes nothing of another.
func TestTreesAreTheirOwn(t *testing.T) {
	a := arena(t, 4, 1000, 3)
	fill(t, a, 1, 0, 100)
	fill(t, a, 2, 50, 100)
	first, third := entriesOf(a, 1), entriesOf(a, 3)
	for i := range 100 {
		a.Put(2, []byte(keyOf(50+i)), []byte("other"))
	}
	for i := range 80 {
		remove(t, a, 2, keyOf(50+i))
	}
	fill(t, a, 2, 0, 50)
	if entriesOf(a, 1) != first || entriesOf(a, 3) != third || a.Len(1) != 100 || a.Len(3) != 0 {
		t.Error("another tree has changed")
	}
	drop(t, a, 2)
	if entriesOf(a, 1) != first || entriesOf(a, 3) != third {
		t.Error("another tree has changed")
	}
	holdShape(t, a)
}

// P4.6: a tree that is h deep has 2 times m to the power of h - 1 entries at least, also when it was greater.
func TestDeepTreesAreFull(t *testing.T) {
	for _, fan := range []int{4, 5, 9} {
		a := arena(t, fan, 10000, 1)
		fill(t, a, 1, 0, 2000)
		for i := range 2000 {
			remove(t, a, 1, keyOf(i*7%2000))
			holdShape(t, a)
		}
		if a.Deep(1) != 1 {
			t.Errorf("emptied: %d deep", a.Deep(1))
		}
	}
}

// P4.6: things done that nobody thought of.
func FuzzArena(f *testing.F) {
	f.Add(byte(0), byte(3), []byte("some things are done here, and others"))
	f.Add(byte(60), byte(200), []byte{0, 0, 0, 10, 20, 30, 4, 4, 4, 2, 2, 2, 3, 3, 3})
	f.Fuzz(func(t *testing.T, fan, most byte, b []byte) {
		p := newPair(t, 4+int(fan)%61, 1+int(most))
		next := func(below int) int {
			if len(b) == 0 {
				return 0
			}
			n := int(b[0]) % below
			b = b[1:]
			return n
		}
		for i := 0; len(b) > 0 && i < 1000; i++ {
			p.do(t, next, 100, i/100%2 == 0)
		}
		p.w.hold(t, p.a)
	})
}
