package tree

import (
	"bytes"
	"fmt"
	"maps"
	"slices"
	"strings"
	"testing"

	"cardindex/api"
)

// some_test.go: what the tests are made of; the chapter's words, said in another way.

// arena is a new arena with so many trees.
func arena(t *testing.T, fan, most, trees int) *Arena {
	t.Helper()
	a, err := New(fan, most)
	if err != api.OK || a == nil {
		t.Fatalf("New(%d, %d): error %d", fan, most, err)
	}
	for i := range trees {
		if root, err := a.Create(); root != i+1 || err != api.OK {
			t.Fatalf("Create: %d, error %d", root, err)
		}
	}
	return a
}

// put puts an entry that is not there yet.
func put(t *testing.T, a *Arena, root int, key, val string) {
	t.Helper()
	if there, err := a.Put(root, []byte(key), []byte(val)); there || err != api.OK {
		t.Fatalf("Put(%d, %.20q): %v, error %d", root, key, there, err)
	}
}

// remove deletes an entry that is there.
func remove(t *testing.T, a *Arena, root int, key string) {
	t.Helper()
	if there, err := a.Delete(root, []byte(key)); !there || err != api.OK {
		t.Fatalf("Delete(%d, %.20q): %v, error %d", root, key, there, err)
	}
}

// drop drops a tree that is there.
func drop(t *testing.T, a *Arena, root int) {
	t.Helper()
	if err := a.Drop(root); err != api.OK {
		t.Fatalf("Drop(%d): error %d", root, err)
	}
}

// keyOf is the i-th of many keys, in their order.
func keyOf(i int) string { return fmt.Sprintf("%06d", i) }

// fill puts the keys from from on, so many.
func fill(t *testing.T, a *Arena, root, from, many int) {
	t.Helper()
	for i := range many {
		put(t, a, root, keyOf(from+i), "v")
	}
}

// entriesOf is all entries of a tree, as After tells them, one by one.
func entriesOf(a *Arena, root int) string {
	var out strings.Builder
	for k, v, ok := a.After(root, nil, true); ok; k, v, ok = a.After(root, k, false) {
		fmt.Fprintf(&out, "%q=%q ", k, v)
	}
	return out.String()
}

// text is an arena's trees, node by node, and which number is next.
func text(a *Arena) string {
	var out strings.Builder
	var show func(n *node)
	show = func(n *node) {
		out.WriteString("(")
		for _, p := range n.places {
			if p.kid != nil {
				show(p.kid)
			} else {
				fmt.Fprintf(&out, "%q=%q ", p.key, p.val)
			}
		}
		out.WriteString(")")
	}
	for _, root := range slices.Sorted(maps.Keys(a.now.trees)) {
		fmt.Fprintf(&out, "%d: %d ", root, a.now.trees[root].entries)
		show(a.now.trees[root].top)
	}
	fmt.Fprintf(&out, " next %d nodes %d", a.now.next, a.now.nodes)
	return out.String()
}

// shape tells what is not as the chapter's words have it (nothing, if all is), and how deep the tree is; it asks the nodes without any of the package's walks.
type shape struct {
	fan   int
	nodes map[*node]bool
	fault string
}

// below is how deep n is, and its first and last key.
func (s *shape) below(n *node, top bool) (int, string, string) {
	if s.nodes[n] {
		s.fault = "a node stands twice"
		return 0, "", ""
	}
	s.nodes[n] = true
	least, inner := s.fan/2, len(n.places) > 0 && n.places[0].kid != nil
	if top && inner {
		least = 2
	} else if top {
		least = 0
	}
	if len(n.places) < least || len(n.places) > s.fan {
		s.fault = fmt.Sprintf("a node has %d places", len(n.places))
	}
	deep, first, last := 0, "", ""
	for i, p := range n.places {
		d, low, high := 0, p.key, p.key
		if inner {
			d, low, high = s.below(p.kid, false)
		}
		if i > 0 && d != deep {
			s.fault = "leaves are not equally deep"
		}
		if i > 0 && low <= last {
			s.fault = fmt.Sprintf("%q comes behind %q", low, last)
		}
		if i == 0 {
			deep, first = d, low
		}
		last = high
	}
	return deep + 1, first, last
}

// holdShape: the nodes are as the chapter's words have them, so many, and Deep, Nodes and Check tell it.
func holdShape(t *testing.T, a *Arena) {
	t.Helper()
	s := shape{fan: a.fan, nodes: map[*node]bool{}}
	for root, tr := range a.now.trees {
		deep, _, _ := s.below(tr.top, true)
		if a.Deep(root) != deep {
			t.Fatalf("tree %d is %d deep, told %d", root, deep, a.Deep(root))
		}
		least := 2
		for range deep - 1 {
			least *= a.fan / 2
		}
		if deep > 1 && a.Len(root) < least {
			t.Fatalf("tree %d is %d deep, with %d entries", root, deep, a.Len(root))
		}
	}
	if s.fault != "" {
		t.Fatalf("%s: %s", s.fault, text(a))
	}
	if len(s.nodes) != a.Nodes() || a.Nodes() > a.most {
		t.Fatalf("%d nodes, told %d, at most %d", len(s.nodes), a.Nodes(), a.most)
	}
	if err := a.Check(); err != api.OK {
		t.Fatalf("Check: error %d", err)
	}
}

// twin is what an arena has, without nodes.
type twin struct {
	trees map[int]map[string]string
	next  int
}

func newTwin() *twin { return &twin{trees: map[int]map[string]string{}, next: 1} }

// copy shares nothing with w.
func (w *twin) copy() *twin {
	c := &twin{trees: map[int]map[string]string{}, next: w.next}
	for root, entries := range w.trees {
		c.trees[root] = maps.Clone(entries)
	}
	return c
}

// probes: keys that are there, those next to them, and the ends.
func probes(keys []string) []string {
	l := []string{"", "\x00", "\xff\xff\xff\xff\xff\xff\xff\xff"}
	for _, k := range keys {
		l = append(l, k, k+"\x00", k+"\xff")
		if k != "" {
			l = append(l, k[:len(k)-1])
		}
	}
	return l
}

// hold holds all that an arena tells against its twin.
func (w *twin) hold(t *testing.T, a *Arena) {
	t.Helper()
	holdShape(t, a)
	for root := -1; root <= w.next+1; root++ {
		w.holdTree(t, a, root)
	}
}

func (w *twin) holdTree(t *testing.T, a *Arena, root int) {
	t.Helper()
	entries, there := w.trees[root]
	if !there {
		holdNoTree(t, a, root)
		return
	}
	keys := slices.Sorted(maps.Keys(entries))
	if a.Len(root) != len(keys) {
		t.Fatalf("Len(%d) = %d, not %d", root, a.Len(root), len(keys))
	}
	checkEntry := func(what, wantKey string, want bool, k, v []byte, ok bool) {
		t.Helper()
		if ok != want || !ok && (k != nil || v != nil) || ok && (string(k) != wantKey || string(v) != entries[wantKey]) {
			t.Fatalf("%s of tree %d: %q, %q, %v; not %q, %q, %v", what, root, k, v, ok, wantKey, entries[wantKey], want)
		}
	}
	wantAt := func(i int) (string, bool) {
		if i < 0 || i >= len(keys) {
			return "", false
		}
		return keys[i], true
	}
	for _, key := range probes(keys) {
		val, is := entries[key]
		if v, ok := a.Get(root, []byte(key)); ok != is || string(v) != val || !ok && v != nil {
			t.Fatalf("Get(%d, %q) = %q, %v; not %q, %v", root, key, v, ok, val, is)
		}
		i, is := slices.BinarySearch(keys, key)
		behind := i
		if is {
			behind++
		}
		want, some := wantAt(behind)
		k, v, ok := a.After(root, []byte(key), false)
		checkEntry("After "+key, want, some, k, v, ok)
		want, some = wantAt(i)
		k, v, ok = a.After(root, []byte(key), true)
		checkEntry("After at "+key, want, some, k, v, ok)
		want, some = wantAt(i - 1)
		k, v, ok = a.Before(root, []byte(key), false)
		checkEntry("Before "+key, want, some, k, v, ok)
		want, some = wantAt(behind - 1)
		k, v, ok = a.Before(root, []byte(key), true)
		checkEntry("Before at "+key, want, some, k, v, ok)
	}
	want, some := wantAt(len(keys) - 1)
	k, v, ok := a.Last(root)
	checkEntry("Last", want, some, k, v, ok)
}

// holdNoTree: of no such tree there is nothing, and what changes one is refused (R2).
func holdNoTree(t *testing.T, a *Arena, root int) {
	t.Helper()
	before := text(a)
	if a.Len(root) != 0 || a.Deep(root) != 0 {
		t.Fatalf("no tree %d: Len %d, Deep %d", root, a.Len(root), a.Deep(root))
	}
	for _, at := range []bool{false, true} {
		if k, v, ok := a.After(root, []byte("a"), at); ok || k != nil || v != nil {
			t.Fatalf("no tree %d: After %q, %q, %v", root, k, v, ok)
		}
		if k, v, ok := a.Before(root, []byte("a"), at); ok || k != nil || v != nil {
			t.Fatalf("no tree %d: Before %q, %q, %v", root, k, v, ok)
		}
	}
	if v, ok := a.Get(root, []byte("a")); ok || v != nil {
		t.Fatalf("no tree %d: Get %q, %v", root, v, ok)
	}
	if k, v, ok := a.Last(root); ok || k != nil || v != nil {
		t.Fatalf("no tree %d: Last %q, %q, %v", root, k, v, ok)
	}
	if there, err := a.Put(root, []byte("a"), []byte("v")); there || err != api.ErrRoot {
		t.Fatalf("no tree %d: Put %v, error %d", root, there, err)
	}
	if there, err := a.Delete(root, []byte("a")); there || err != api.ErrRoot {
		t.Fatalf("no tree %d: Delete %v, error %d", root, there, err)
	}
	if err := a.Drop(root); err != api.ErrRoot {
		t.Fatalf("no tree %d: Drop error %d", root, err)
	}
	if text(a) != before {
		t.Fatalf("no tree %d: something has changed", root)
	}
}

// chance tells numbers that look like none in particular, always the same.
type chance uint64

func (c *chance) below(n int) int {
	*c = *c*6364136223846793005 + 1442695040888963407
	return int(uint64(*c) >> 33 % uint64(n))
}

// long is a string of n bytes.
func long(n int) []byte { return bytes.Repeat([]byte("x"), n) }

// sortedRoots is the numbers of a twin's trees.
func (w *twin) sortedRoots() []int { return slices.Sorted(maps.Keys(w.trees)) }
