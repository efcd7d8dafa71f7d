package tree

import (
	"math"
	"testing"

	"cardindex/api"
)

// tree_test.go: P4.1, arenas and trees; P4.2, entries put and deleted; P4.3, entries told; P4.4, how many there are.

// P4.1: which fans and how many nodes an arena may have.
func TestNew(t *testing.T) {
	for _, c := range []struct {
		fan, most int
		want      api.Errno
	}{
		{4, 1, api.OK}, {5, 10, api.OK}, {64, 1 << 16, api.OK}, {63, 1<<16 - 1, api.OK}, {4, 1 << 16, api.OK}, {64, 1, api.OK},
		{3, 1, api.ErrArg}, {65, 1, api.ErrArg}, {0, 1, api.ErrArg}, {-4, 1, api.ErrArg}, {math.MinInt, 1, api.ErrArg}, {math.MaxInt, 1, api.ErrArg},
		{4, 0, api.ErrArg}, {4, -1, api.ErrArg}, {64, 1<<16 + 1, api.ErrArg}, {4, math.MinInt, api.ErrArg}, {4, math.MaxInt, api.ErrArg}, {0, 0, api.ErrArg},
	} {
		a, err := New(c.fan, c.most)
		if err != c.want || (a != nil) != (err == api.OK) {
			t.Errorf("New(%d, %d): %v, error %d", c.fan, c.most, a, err)
		}
		if a != nil && (a.Nodes() != 0 || a.Check() != api.OK || a.Len(1) != 0 || a.Deep(1) != 0) {
			t.Errorf("New(%d, %d) has a tree", c.fan, c.most)
		}
	}
}

// P4.1: the numbers of trees go on, whatever is dropped, or refused.
func TestNumbersOfTrees(t *testing.T) {
	a := arena(t, 4, 3, 3)
	if root, err := a.Create(); root != 0 || err != api.ErrFull {
		t.Errorf("no node is free: %d, error %d", root, err)
	}
	drop(t, a, 3)
	drop(t, a, 1)
	for _, want := range []int{4, 5} {
		if root, err := a.Create(); root != want || err != api.OK {
			t.Errorf("%d, error %d, not %d", root, err, want)
		}
	}
	if root, err := a.Create(); root != 0 || err != api.ErrFull {
		t.Errorf("no node is free: %d, error %d", root, err)
	}
	for _, root := range []int{1, 3, 6, 0, -1, math.MinInt, math.MaxInt} {
		holdNoTree(t, a, root)
	}
	for _, root := range []int{2, 4, 5} {
		if a.Len(root) != 0 || a.Deep(root) != 1 {
			t.Errorf("tree %d: %d entries, %d deep", root, a.Len(root), a.Deep(root))
		}
		drop(t, a, root)
	}
	if a.Nodes() != 0 {
		t.Errorf("%d nodes of no tree", a.Nodes())
	}
	holdShape(t, a)
}

// P4.1: there are MaxTrees trees at most.
func TestMaxTrees(t *testing.T) {
	a := arena(t, 4, api.MaxNodes, api.MaxTrees)
	if root, err := a.Create(); root != 0 || err != api.ErrFull {
		t.Errorf("%d, error %d", root, err)
	}
	put(t, a, api.MaxTrees, "a", "v")
	drop(t, a, 7)
	if root, err := a.Create(); root != api.MaxTrees+1 || err != api.OK {
		t.Errorf("%d, error %d", root, err)
	}
	if root, err := a.Create(); root != 0 || err != api.ErrFull {
		t.Errorf("%d, error %d", root, err)
	}
	holdShape(t, a)
}

// P4.1: what is dropped frees all its nodes, and those alone.
func TestDropFreesNodes(t *testing.T) {
	a := arena(t, 4, 100, 2)
	fill(t, a, 1, 0, 50)
	of1 := a.Nodes() - 1
	fill(t, a, 2, 0, 20)
	of2 := a.Nodes() - of1
	before := entriesOf(a, 2)
	drop(t, a, 1)
	if a.Nodes() != of2 || entriesOf(a, 2) != before {
		t.Errorf("%d nodes, not %d; %s", a.Nodes(), of2, entriesOf(a, 2))
	}
	holdNoTree(t, a, 1)
	holdShape(t, a)
	// As many nodes as there were are free for others.
	for free := 100 - of2; free > 0; free-- {
		if _, err := a.Create(); err != api.OK {
			t.Fatalf("%d nodes ought to be free: error %d", free, err)
		}
	}
	if _, err := a.Create(); err != api.ErrFull {
		t.Errorf("error %d", err)
	}
}

// P4.1: entries' nodes are none for new trees, till they are free.
func TestEntriesTakeNodes(t *testing.T) {
	a := arena(t, 4, 3, 1)
	fill(t, a, 1, 0, 5)
	if root, err := a.Create(); root != 0 || err != api.ErrFull {
		t.Errorf("%d, error %d", root, err)
	}
	for i := range 4 {
		remove(t, a, 1, keyOf(i))
	}
	if a.Nodes() != 1 || a.Deep(1) != 1 {
		t.Errorf("%d nodes, %d deep", a.Nodes(), a.Deep(1))
	}
	if root, err := a.Create(); root != 2 || err != api.OK {
		t.Errorf("%d, error %d", root, err)
	}
}

// The chapter's examples.
func TestExamples(t *testing.T) {
	a := arena(t, 4, 10, 1)
	put(t, a, 1, "b", "2")
	put(t, a, 1, "a", "1")
	if there, err := a.Put(1, []byte("a"), []byte("3")); !there || err != api.OK {
		t.Errorf("%v, error %d", there, err)
	}
	if k, v, ok := a.After(1, []byte("a"), false); string(k) != "b" || string(v) != "2" || !ok {
		t.Errorf("%q, %q, %v", k, v, ok)
	}
	if k, v, ok := a.After(1, []byte("a"), true); string(k) != "a" || string(v) != "3" || !ok {
		t.Errorf("%q, %q, %v", k, v, ok)
	}
	if k, v, ok := a.Before(1, []byte("a"), false); k != nil || v != nil || ok {
		t.Errorf("%q, %q, %v", k, v, ok)
	}
	for _, k := range []string{"c", "d", "e"} {
		put(t, a, 1, k, "")
	}
	if a.Len(1) != 5 || a.Deep(1) != 2 || a.Nodes() != 3 {
		t.Errorf("%d entries, %d deep, %d nodes", a.Len(1), a.Deep(1), a.Nodes())
	}
	a = arena(t, 4, 1, 1)
	fill(t, a, 1, 0, 4)
	if there, err := a.Put(1, []byte("e"), nil); there || err != api.ErrFull {
		t.Errorf("%v, error %d", there, err)
	}
}

// P4.2: keys of all bytes, the empty one too, in the order of their bytes; values of nothing.
func TestKeysOfAllBytes(t *testing.T) {
	keys := []string{"", "\x00", "\x00\x00", "\x00\x01", "\x01", "A", "a", "a\x00", "a\x00b", "aa", "ab", "b", "\x7f", "\x80", "\xc3\xa9", "\xff", "\xff\x00", "\xff\xff"}
	for _, fan := range []int{4, 5, 7, 64} {
		a, w := arena(t, fan, 100, 1), newTwin()
		w.trees[1], w.next = map[string]string{}, 2
		for i := range keys {
			k := keys[i*7%len(keys)]
			put(t, a, 1, k, k+"!")
			w.trees[1][k] = k + "!"
			w.hold(t, a)
		}
		for i := range keys {
			k := keys[i*5%len(keys)]
			if there, err := a.Put(1, []byte(k), nil); !there || err != api.OK {
				t.Fatalf("Put of %q again: %v, error %d", k, there, err)
			}
			w.trees[1][k] = ""
			w.hold(t, a)
		}
		for i := range keys {
			k := keys[i*11%len(keys)]
			remove(t, a, 1, k)
			delete(w.trees[1], k)
			w.hold(t, a)
			if there, err := a.Delete(1, []byte(k)); there || err != api.OK {
				t.Fatalf("Delete of %q again: %v, error %d", k, there, err)
			}
		}
		if a.Nodes() != 1 || a.Deep(1) != 1 || a.Len(1) != 0 {
			t.Fatalf("emptied: %d nodes, %d deep, %d entries", a.Nodes(), a.Deep(1), a.Len(1))
		}
	}
}

// P4.2: a nil key is the empty one, a nil value the empty one (R6).
func TestNilIsEmpty(t *testing.T) {
	a := arena(t, 4, 10, 1)
	if there, err := a.Put(1, nil, nil); there || err != api.OK {
		t.Errorf("%v, error %d", there, err)
	}
	if there, err := a.Put(1, []byte{}, []byte{}); !there || err != api.OK {
		t.Errorf("%v, error %d", there, err)
	}
	if v, ok := a.Get(1, nil); len(v) != 0 || !ok {
		t.Errorf("%q, %v", v, ok)
	}
	if k, v, ok := a.After(1, nil, true); len(k) != 0 || len(v) != 0 || !ok {
		t.Errorf("%q, %q, %v", k, v, ok)
	}
	if there, err := a.Delete(1, nil); !there || err != api.OK || a.Len(1) != 0 {
		t.Errorf("%v, error %d", there, err)
	}
}

// P4.2: keys and values have MaxRow bytes at most; longer ones may be asked for.
func TestLongEntries(t *testing.T) {
	a := arena(t, 4, 10, 1)
	put(t, a, 1, string(long(api.MaxRow)), string(long(api.MaxRow)))
	before := text(a)
	for _, c := range [][2][]byte{{long(api.MaxRow + 1), nil}, {nil, long(api.MaxRow + 1)}, {long(api.MaxRow), long(api.MaxRow + 1)}, {long(api.MaxRow + 1), long(api.MaxRow + 1)}} {
		if there, err := a.Put(1, c[0], c[1]); there || err != api.ErrLong {
			t.Errorf("%d and %d bytes: %v, error %d", len(c[0]), len(c[1]), there, err)
		}
		if there, err := a.Put(2, c[0], c[1]); there || err != api.ErrRoot {
			t.Errorf("no tree: %v, error %d", there, err)
		}
	}
	beyond := long(api.MaxRow + 1)
	if v, ok := a.Get(1, beyond); ok || v != nil {
		t.Error("a key that is too long is there")
	}
	if there, err := a.Delete(1, beyond); there || err != api.OK {
		t.Errorf("%v, error %d", there, err)
	}
	if k, v, ok := a.Before(1, beyond, false); !ok || len(k) != api.MaxRow || len(v) != api.MaxRow {
		t.Errorf("%d, %d, %v", len(k), len(v), ok)
	}
	if k, v, ok := a.After(1, beyond, true); ok || k != nil || v != nil {
		t.Errorf("%d, %d, %v", len(k), len(v), ok)
	}
	if text(a) != before {
		t.Error("something has changed")
	}
	holdShape(t, a)
}

// P4.2: what is too long is told ahead of what is full.
func TestLongAheadOfFull(t *testing.T) {
	a := arena(t, 4, 1, 1)
	fill(t, a, 1, 0, 4)
	if _, err := a.Put(1, []byte("e"), long(api.MaxRow+1)); err != api.ErrLong {
		t.Errorf("error %d", err)
	}
	if _, err := a.Put(1, long(api.MaxRow+1), nil); err != api.ErrLong {
		t.Errorf("error %d", err)
	}
	if _, err := a.Put(1, []byte(keyOf(0)), long(api.MaxRow+1)); err != api.ErrLong {
		t.Errorf("error %d", err)
	}
	if _, err := a.Put(2, []byte("e"), nil); err != api.ErrRoot {
		t.Errorf("error %d", err)
	}
}

// P4.2: in a full arena a value is changed, an entry is put where a leaf has room, and entries are deleted.
func TestFullArena(t *testing.T) {
	for _, fan := range []int{4, 5, 8, 64} {
		for _, most := range []int{1, 3, 4, 5, 20} {
			a, w := arena(t, fan, most, 1), newTwin()
			w.trees[1], w.next = map[string]string{}, 2
			c, refused := chance(most), 0
			for refused < 50 {
				key := keyOf(c.below(100000))
				before := text(a)
				there, err := a.Put(1, []byte(key), nil)
				if err == api.OK {
					w.trees[1][key] = ""
					continue
				}
				refused++
				if there || err != api.ErrFull || text(a) != before {
					t.Fatalf("%v, error %d; something has changed", there, err)
				}
				if most-a.Nodes() > a.Deep(1) {
					t.Fatalf("refused with %d of %d nodes, %d deep", a.Nodes(), most, a.Deep(1))
				}
			}
			w.hold(t, a)
			for key := range w.trees[1] {
				if there, err := a.Put(1, []byte(key), []byte("other")); !there || err != api.OK {
					t.Fatalf("in place of one that is there: %v, error %d", there, err)
				}
				w.trees[1][key] = "other"
			}
			w.hold(t, a)
			for key := range w.trees[1] {
				remove(t, a, 1, key)
				delete(w.trees[1], key)
				holdShape(t, a)
			}
			w.hold(t, a)
		}
	}
}

// P4.2: one node too few is ErrFull, just as many as it takes are enough: with a leaf alone, one way full, all full.
func TestNodesAreWanting(t *testing.T) {
	for _, fan := range []int{4, 5, 64} {
		for _, entries := range []int{fan, 3 * fan, fan * fan, 2000} {
			loose := arena(t, fan, api.MaxNodes, 1)
			fill(t, loose, 1, 0, entries)
			for wanted := 0; wanted == 0; entries++ {
				before := loose.Nodes()
				put(t, loose, 1, keyOf(entries), "v")
				wanted = loose.Nodes() - before
				if wanted == 0 {
					continue
				}
				for most := before; most <= before+wanted; most++ {
					a := arena(t, fan, most, 1)
					fill(t, a, 1, 0, entries)
					_, err := a.Put(1, []byte(keyOf(entries)), []byte("v"))
					if want := most < before+wanted; want != (err == api.ErrFull) || !want && err != api.OK {
						t.Errorf("fan %d, %d entries: %d nodes wanted, %d there: error %d", fan, entries, wanted, most-before, err)
					}
					holdShape(t, a)
				}
			}
		}
	}
}

// P4.2, P4.4: the most nodes that an arena may have.
func TestMaxNodes(t *testing.T) {
	a := arena(t, 4, api.MaxNodes, 1)
	many := 0
	for {
		if _, err := a.Put(1, []byte(keyOf(many*7919%1000000)), nil); err != api.OK {
			break
		}
		many++
	}
	if free := api.MaxNodes - a.Nodes(); free > a.Deep(1) || a.Len(1) != many {
		t.Errorf("full with %d nodes free, %d deep, %d of %d entries", free, a.Deep(1), a.Len(1), many)
	}
	holdShape(t, a)
	s := a.Save()
	for i := range many {
		remove(t, a, 1, keyOf(i*7919%1000000))
	}
	if a.Nodes() != 1 || a.Len(1) != 0 {
		t.Errorf("%d nodes, %d entries", a.Nodes(), a.Len(1))
	}
	holdShape(t, a)
	if err := a.Load(s); err != api.OK || a.Len(1) != many {
		t.Errorf("error %d, %d entries", err, a.Len(1))
	}
	holdShape(t, a)
}

// P4.2, P4.3: put in rising, falling and mingled order, and deleted so: the same entries, of each fan.
func TestOrders(t *testing.T) {
	const many = 300
	orders := map[string]func(i int) int{
		"rising":  func(i int) int { return i },
		"falling": func(i int) int { return many - 1 - i },
		"mingled": func(i int) int { return i * 7 % many },
		"inward":  func(i int) int { return [2]int{i / 2, many - 1 - i/2}[i%2] },
	}
	for fan := api.MinFan; fan <= api.MaxFan; fan += 1 + fan/8 {
		for in, putOrder := range orders {
			for out, deleteOrder := range orders {
				a, w := arena(t, fan, 1000, 1), newTwin()
				w.trees[1], w.next = map[string]string{}, 2
				for i := range many {
					put(t, a, 1, keyOf(putOrder(i)), in)
					w.trees[1][keyOf(putOrder(i))] = in
					holdShape(t, a)
				}
				w.hold(t, a)
				for i := range many {
					remove(t, a, 1, keyOf(deleteOrder(i)))
					delete(w.trees[1], keyOf(deleteOrder(i)))
					holdShape(t, a)
					if i == many/2 {
						w.hold(t, a)
					}
				}
				if a.Nodes() != 1 || a.Len(1) != 0 {
					t.Fatalf("%s, %s: %d nodes, %d entries", in, out, a.Nodes(), a.Len(1))
				}
			}
		}
	}
}

// P4.3: of a tree without entries there is none.
func TestEmptyTree(t *testing.T) {
	a, w := arena(t, 4, 10, 2), newTwin()
	w.trees[1], w.trees[2], w.next = map[string]string{}, map[string]string{"a": "v"}, 3
	put(t, a, 2, "a", "v")
	w.hold(t, a)
	remove(t, a, 2, "a")
	delete(w.trees[2], "a")
	w.hold(t, a)
}
