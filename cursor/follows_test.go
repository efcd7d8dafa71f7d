package cursor

import (
	"fmt"
	"slices"
	"testing"

	"cardindex/api"
	"cardindex/undo"
)

// follows_test.go: P6.4: whatever becomes of the tree, a cursor goes on from the key where it is.

// P6.4: walking forth or back with each entry deleted where it stands deletes all, whatever the fan.
func TestDeleteAll(t *testing.T) {
	for _, fan := range []int{4, 5, 64} {
		for _, many := range []int{0, 1, 4, 5, 17, 1000} {
			for _, last := range []bool{false, true} {
				s := store(t, fan, 2000, 1)
				put(t, s, 1, keysTo(many)...)
				c := cursor(t, s, 1)
				start, step := c.Rewind, c.Next
				if last {
					start, step = c.Last, c.Prev
				}
				done := 0
				for ok := start(); ok && done <= many; ok = step() {
					if err := c.Delete(); err != api.OK {
						t.Fatalf("error %d", err)
					}
					isInvalid(t, c)
					done++
				}
				if done != many || s.Len(1) != 0 || s.Nodes() != 1 || s.Check() != api.OK {
					t.Errorf("fan %d: %d of %d deleted, %d left", fan, done, many, s.Len(1))
				}
			}
		}
	}
}

// P6.4: every other one deleted, the others stay.
func TestDeleteEveryOther(t *testing.T) {
	s, c := few(t, keysTo(501)...)
	for i, ok := 0, c.Rewind(); ok; i, ok = i+1, c.Next() {
		isAt(t, c, keyOf(i))
		if i%2 == 0 {
			if err := c.Delete(); err != api.OK {
				t.Fatalf("error %d", err)
			}
		}
	}
	got := forth(c)
	if len(got) != 250 || s.Len(1) != 250 {
		t.Fatalf("%d left", len(got))
	}
	for i, key := range got {
		if key != keyOf(2*i+1) {
			t.Fatalf("%q", got)
		}
	}
}

// P6.4: entries put on the way, ahead of the cursor and behind it: it comes to the latter.
func TestPutOnTheWay(t *testing.T) {
	s, c := few(t, keysTo(50)...)
	var got []string
	for ok := c.Rewind(); ok && len(got) < 1000; ok = c.Next() {
		key := string(c.Key())
		got = append(got, key)
		if len(key) == len(keyOf(0)) {
			put(t, s, 1, key[:5]+"/"+key[5:], key+"+") // "/" is below all digits
		}
	}
	want := make([]string, 0, 100)
	for _, key := range keysTo(50) {
		want = append(want, key, key+"+")
	}
	if !slices.Equal(got, want) {
		t.Errorf("%q\nnot %q", got, want)
	}
	if s.Len(1) != 150 {
		t.Errorf("%d entries", s.Len(1))
	}
}

// P6.4: what is ahead of the cursor and behind it changes where it is not valid, too.
func TestGoesOnFromAKeyThatIsGone(t *testing.T) {
	s, c := few(t, "b", "d", "f")
	c.Seek(api.SeekGE, []byte("d"))
	take(t, s, 1, "d")
	put(t, s, 1, "c", "e")
	other := *c
	other.self = &other
	if !c.Next() || !other.Prev() {
		t.Fatal("nothing behind d, or ahead of it")
	}
	isAt(t, c, "e")
	isAt(t, &other, "c")
	take(t, s, 1, "b", "c", "e", "f")
	put(t, s, 1, "d")
	if !c.Prev() || !other.Next() {
		t.Fatal("no d")
	}
	isAt(t, c, "d")
	isAt(t, &other, "d")
}

// P6.4: a tree that is dropped and put back, or cleared and filled anew, changes nothing of where the cursor is.
func TestGoesOnBehindBack(t *testing.T) {
	s, c := few(t, keysTo(100)...)
	c.Seek(api.SeekGE, []byte(keyOf(50)))
	n := mark(t, s)
	drop(t, s, 1)
	isInvalid(t, c)
	back(t, s, n)
	isAt(t, c, keyOf(50))
	n = mark(t, s)
	take(t, s, 1, keysTo(100)...)
	isInvalid(t, c)
	put(t, s, 1, keyOf(49), keyOf(60))
	back(t, s, n)
	isAt(t, c, keyOf(50))
	if !c.Next() {
		t.Fatal("nothing behind 50")
	}
	isAt(t, c, keyOf(51))
}

// P6.4: the tree's number is what a cursor has: of a new tree of the same number it goes on, too.
func TestGoesOnInATreeOfTheSameNumber(t *testing.T) {
	s := store(t, 4, 100, 0)
	n := mark(t, s)
	put(t, s, create(t, s), "a", "b")
	c := cursor(t, s, 1)
	c.Rewind()
	back(t, s, n)
	isInvalid(t, c)
	if err := c.Delete(); err != api.ErrRoot {
		t.Errorf("error %d", err)
	}
	put(t, s, create(t, s), "a", "c")
	isAt(t, c, "a")
	if !c.Next() {
		t.Fatal("nothing behind a")
	}
	isAt(t, c, "c")
}

// P6.4: cursors of one tree are apart; what one does to it the others see.
func TestCursorsAreApart(t *testing.T) {
	s, one := few(t, "a", "b", "c")
	two := cursor(t, s, 1)
	one.Rewind()
	isNowhere(t, two)
	two.Rewind()
	two.Next()
	isAt(t, one, "a")
	isAt(t, two, "b")
	if err := one.Delete(); err != api.OK {
		t.Fatalf("error %d", err)
	}
	isAt(t, two, "b")
	if two.Prev() {
		t.Errorf("at %q", two.Key())
	}
	if _, err := one.Insert([]byte("bb"), []byte("[bb]")); err != api.OK {
		t.Fatalf("error %d", err)
	}
	isNowhere(t, two)
	two.Last()
	two.Prev()
	isAt(t, two, "bb")
}

// game is a store with cursors, and the twin of both.
type game struct {
	s     *undo.Store
	w     *twin
	many  int // of its keys
	all   []*Cursor
	spots []*spot
}

// keyFor is one of the game's keys, of a length of its own.
func (g *game) keyFor(next func(below int) int) string {
	n := next(g.many)
	return fmt.Sprint(n)[:next(len(fmt.Sprint(n))+1)]
}

// someTree is a tree's number, mostly of one that is there.
func (g *game) someTree(next func(below int) int) int {
	if ids := g.s.Trees(); len(ids) > 0 && next(20) > 0 {
		return ids[next(len(ids))]
	}
	return next(5) - 1
}

// doTrees makes a tree, a cursor, a mark, or puts back to one.
func (g *game) doTrees(t *testing.T, next func(below int) int) {
	t.Helper()
	switch next(6) {
	case 0:
		if id, err := g.s.Create(); err == api.OK {
			g.w.trees[id], g.w.next = entries{}, id+1
		}
	case 1:
		if id := g.someTree(next); next(4) == 0 && g.s.Drop(id) == api.OK {
			delete(g.w.trees, id)
		}
	case 2:
		if _, err := g.s.Mark(); err == api.OK {
			g.w.marks = append(g.w.marks, g.w.copied())
		}
	case 3:
		n := next(len(g.w.marks) + 1)
		if g.s.Back(n) == api.OK {
			at := g.w.marks[n-1]
			g.w.trees, g.w.next, g.w.marks = at.trees, at.next, g.w.marks[:n-1]
		}
	default:
		g.newCursor(t, g.someTree(next), next(8))
	}
}

// newCursor makes a cursor in place of that one.
func (g *game) newCursor(t *testing.T, id, at int) {
	t.Helper()
	c, err := New(g.s, id)
	if _, there := g.w.trees[id]; !there {
		if c != nil || err != api.ErrRoot {
			t.Fatalf("New(%d): error %d", id, err)
		}
		return
	}
	if err != api.OK {
		t.Fatalf("New(%d): error %d", id, err)
	}
	if at >= len(g.all) {
		g.all, g.spots = append(g.all, c), append(g.spots, &spot{tree: id})
		return
	}
	g.all[at], g.spots[at] = c, &spot{tree: id}
}

// insert inserts by a cursor; of room the twin knows nothing.
func (g *game) insert(t *testing.T, c *Cursor, p *spot, key, val string) {
	t.Helper()
	tree, there := g.w.trees[p.tree]
	_, had := tree[key]
	was, err := c.Insert([]byte(key), []byte(val))
	switch {
	case !there && (was || err != api.ErrRoot), there && err == api.OK && was != had, there && had && err != api.OK:
		t.Fatalf("Insert(%q): %v, error %d", key, was, err)
	case err == api.OK:
		tree[key], p.key, p.set = val, key, true
	case there && err != api.ErrFull:
		t.Fatalf("Insert(%q): error %d", key, err)
	}
}

// remove deletes where a cursor is.
func (g *game) remove(t *testing.T, c *Cursor, p *spot) {
	t.Helper()
	tree, there := g.w.trees[p.tree]
	_, had := tree[p.key]
	want := api.OK
	if !there {
		want = api.ErrRoot
	} else if !p.set || !had {
		want = api.ErrNow
	}
	if err := c.Delete(); err != want {
		t.Fatalf("Delete at %q: error %d, not %d", p.key, err, want)
	}
	if want == api.OK {
		delete(tree, p.key)
	}
}

// change puts or takes an entry past all cursors.
func (g *game) change(next func(below int) int) {
	id, key, val := g.someTree(next), g.keyFor(next), fmt.Sprint(next(1000))
	if next(2) == 0 {
		if _, err := g.s.Put(id, []byte(key), []byte(val)); err == api.OK {
			g.w.trees[id][key] = val
		}
	} else if _, err := g.s.Delete(id, []byte(key)); err == api.OK {
		delete(g.w.trees[id], key)
	}
}

// step is one thing or another, with one of the cursors.
func (g *game) step(t *testing.T, next func(below int) int) {
	t.Helper()
	if next(8) == 0 || len(g.all) == 0 {
		g.doTrees(t, next)
		return
	}
	i := next(len(g.all))
	c, p := g.all[i], g.spots[i]
	switch next(8) {
	case 0:
		g.insert(t, c, p, g.keyFor(next), fmt.Sprint(next(1000)))
	case 1:
		g.remove(t, c, p)
	case 2, 3:
		g.change(next)
	default:
		call := []string{"Rewind", "Last", "Next", "Prev", "Next", "Prev", "Seek", "Seek", "Seek"}[next(9)]
		how, key := api.Seek(next(6)), g.keyFor(next)
		if got, want := move(c, call, how, key), p.move(g.w, call, how, key); got != want {
			t.Fatalf("%s(%d, %q): %v, not %v", call, how, key, got, want)
		}
	}
}

// hold holds all cursors against their spots.
func (g *game) hold(t *testing.T) {
	t.Helper()
	for i, c := range g.all {
		g.spots[i].hold(t, g.w, c)
	}
}

// P6.4: of many things done, cursors are where the twin has them, that looks through all entries each time.
func TestWhateverIsDone(t *testing.T) {
	for _, fan := range []int{4, 5, 16, 64} {
		for _, most := range []int{1, 3, 20, 500} {
			for _, many := range []int{12, 300} {
				g, c := &game{s: store(t, fan, most, 0), w: newTwin(), many: many}, chance(fan*most+many)
				for range 3000 {
					g.step(t, c.below)
					g.hold(t)
				}
				if len(g.all) < 5 || g.s.Check() != api.OK {
					t.Fatalf("%d cursors, Check %d", len(g.all), g.s.Check())
				}
			}
		}
	}
}

// P6.4: things done that nobody thought of.
func FuzzCursor(f *testing.F) {
	f.Add(byte(0), byte(200), byte(50), []byte("some things are done here, and others, by cursors"))
	f.Add(byte(60), byte(3), byte(5), []byte{0, 0, 0, 4, 1, 0, 0, 1, 0, 0, 0, 1, 1, 1, 0, 0, 2, 3, 1, 1, 0, 9, 6, 3, 7, 1})
	f.Fuzz(func(t *testing.T, fan, most, many byte, b []byte) {
		g := &game{s: store(t, 4+int(fan)%61, 1+int(most), 0), w: newTwin(), many: 1 + int(many)}
		next := func(below int) int {
			if len(b) == 0 {
				return 0
			}
			n := int(b[0]) % below
			b = b[1:]
			return n
		}
		for i := 0; len(b) > 0 && i < 1000; i++ {
			g.step(t, next)
			g.hold(t)
		}
	})
}
