package tree

import (
	"strings"
	"testing"

	"cardindex/api"
)

// check_test.go: P4.4, Check: each thing that the chapter says of a tree's nodes is missed.

// leafAt is the i-th leaf of tree 1.
func leafAt(a *Arena, i int) *node {
	for n := range a.now.trees[1].top.nodes() {
		if n.deep == leafDeep {
			if i == 0 {
				return n
			}
			i--
		}
	}
	return nil
}

// change has change do something to tree 1.
func change(a *Arena, change func(*tree)) {
	t := a.now.trees[1]
	change(&t)
	a.now.trees[1] = t
}

// P4.4: whatever is broken in an arena that was right is told.
func TestCheckTellsFaults(t *testing.T) {
	faults := map[string]func(a *Arena){
		"a node more is counted":      func(a *Arena) { a.now.nodes++ },
		"a node less is counted":      func(a *Arena) { a.now.nodes-- },
		"more nodes than may be":      func(a *Arena) { a.most = a.now.nodes - 1 },
		"an entry more is counted":    func(a *Arena) { change(a, func(t *tree) { t.entries++ }) },
		"an entry less is counted":    func(a *Arena) { change(a, func(t *tree) { t.entries-- }) },
		"no top":                      func(a *Arena) { change(a, func(t *tree) { t.top = nil }) },
		"a top that is no leaf":       func(a *Arena) { a.now.trees[2].top.deep = 0 },
		"an inner node that is empty": func(a *Arena) { a.now.trees[2].top.deep = 2 },
		"a top of one node": func(a *Arena) {
			change(a, func(t *tree) { t.top = a.newNode(t.top.deep+1, []place{placeOf(t.top)}) })
		},
		"a leaf with too few": func(a *Arena) {
			leafAt(a, 1).places = leafAt(a, 1).places[:1]
			change(a, func(t *tree) { t.entries-- })
		},
		"a leaf with too many": func(a *Arena) {
			n := leafAt(a, 2)
			for len(n.places) <= a.fan {
				n.places = append(n.places, place{key: n.places[len(n.places)-1].key + "0"})
				change(a, func(t *tree) { t.entries++ })
			}
		},
		"an inner node with too few": func(a *Arena) {
			n := a.now.trees[1].top.places[1].kid
			for _, p := range n.places[1:] {
				a.now.nodes--
				change(a, func(t *tree) { t.entries -= len(p.kid.places) })
			}
			n.places = n.places[:1]
		},
		"a node that is none":     func(a *Arena) { a.now.trees[1].top.places[1].kid = nil },
		"a node below a leaf":     func(a *Arena) { leafAt(a, 0).places[1].kid = leafAt(a, 3) },
		"an empty one below it":   func(a *Arena) { leafAt(a, 0).places[1].kid = &node{deep: leafDeep} },
		"a node that tells wrong": func(a *Arena) { a.now.trees[1].top.places[1].kid.deep++ },
		"a node that stands high": func(a *Arena) { a.now.trees[1].top.places[0].kid = leafAt(a, 0) },
		"a node within itself":    func(a *Arena) { a.now.trees[1].top.places[1].kid = a.now.trees[1].top },
		"a node of two trees": func(a *Arena) {
			a.now.trees[2] = tree{top: leafAt(a, 0), entries: len(leafAt(a, 0).places)}
			a.now.nodes--
		},
		"a node that stands twice": func(a *Arena) {
			n := a.now.trees[1].top.places[0].kid
			n.places[1].kid = n.places[0].kid
		},
		"entries that are turned": func(a *Arena) {
			l := leafAt(a, 1).places
			l[0], l[1] = l[1], l[0]
		},
		"two entries of one key": func(a *Arena) { leafAt(a, 1).places[1].key = leafAt(a, 1).places[0].key },
		"an entry of the next leaf": func(a *Arena) {
			l := leafAt(a, 1).places
			l[len(l)-1].key = leafAt(a, 2).places[0].key
		},
		"nodes that are turned": func(a *Arena) {
			l := a.now.trees[1].top.places
			l[0], l[1] = l[1], l[0]
		},
		"a key above that is less":    func(a *Arena) { a.now.trees[1].top.places[1].key = "" },
		"a key above that is greater": func(a *Arena) { a.now.trees[1].top.places[1].key += "0" },
		"a value above":               func(a *Arena) { a.now.trees[1].top.places[1].val = "v" },
		"a value that is too long":    func(a *Arena) { leafAt(a, 1).places[1].val = string(long(api.MaxRow + 1)) },
		"a key that is too long": func(a *Arena) {
			p := &leafAt(a, 1).places[1]
			p.key += strings.Repeat("0", api.MaxRow)
		},
	}
	for name, spoil := range faults {
		a := arena(t, 4, 1000, 2)
		fill(t, a, 1, 0, 60)
		if a.Deep(1) < 3 || a.Check() != api.OK {
			t.Fatalf("%s: %d deep, Check %d", name, a.Deep(1), a.Check())
		}
		spoil(a)
		if err := a.Check(); err != api.ErrShape {
			t.Errorf("%s: error %d", name, err)
		}
	}
}

// handMade is an arena whose one tree has these leaves, each of the keys that a text has, below a top; of one leaf, this.
func handMade(t *testing.T, fan int, leaves ...string) *Arena {
	a := arena(t, fan, 100, 0)
	var l []place
	entries := 0
	for _, keys := range leaves {
		n := a.newNode(leafDeep, nil)
		for _, k := range keys {
			n.places = append(n.places, place{key: string(k)})
		}
		l = append(l, place{kid: n})
		entries += len(n.places)
	}
	top := l[0].kid
	if len(l) > 1 {
		for i := range l {
			l[i] = placeOf(l[i].kid)
		}
		top = a.newNode(leafDeep+1, l)
	}
	a.now.trees[1] = tree{top: top, entries: entries}
	return a
}

// P4.4: nodes with as few, and as many, as may be are right; one less, and one more, is not.
func TestCheckKnowsBounds(t *testing.T) {
	for _, c := range []struct {
		fan    int
		leaves []string
		want   api.Errno
	}{
		{4, []string{""}, api.OK}, {4, []string{"a"}, api.OK}, {4, []string{"abcd"}, api.OK}, {4, []string{"abcde"}, api.ErrShape}, {5, []string{"abcde"}, api.OK},
		{4, []string{"ab", "cd"}, api.OK}, {5, []string{"ab", "cd"}, api.OK}, {6, []string{"ab", "cde"}, api.ErrShape}, {6, []string{"abc", "def"}, api.OK},
		{5, []string{"a", "bc"}, api.ErrShape}, {5, []string{"ab", "c"}, api.ErrShape}, {4, []string{"abcd", "efgh"}, api.OK}, {4, []string{"abcd", "efghi"}, api.ErrShape},
		{4, []string{"ab", "cd", "ef", "gh"}, api.OK}, {4, []string{"ab", "cd", "ef", "gh", "ij"}, api.ErrShape}, {5, []string{"ab", "cd", "ef", "gh", "ij"}, api.OK},
		{4, []string{"ab", "bc"}, api.ErrShape}, {4, []string{"cd", "ab"}, api.ErrShape}, {4, []string{"ac", "bd"}, api.ErrShape},
	} {
		if err := handMade(t, c.fan, c.leaves...).Check(); err != c.want {
			t.Errorf("fan %d, %q: error %d", c.fan, c.leaves, err)
		}
	}
}

// P4.4: Check changes nothing.
func TestCheckChangesNothing(t *testing.T) {
	a := arena(t, 4, 1000, 2)
	fill(t, a, 1, 0, 60)
	before := text(a)
	for range 3 {
		if a.Check() != api.OK || text(a) != before {
			t.Fatal("something has changed")
		}
	}
}
