package tree

import (
	"iter"
	"sort"
)

// leafDeep is how deep a leaf is.
const leafDeep = 1

// node is a node: a leaf, or an inner one.
type node struct {
	number int
	deep   int
	places []place // by rising keys
}

// place is a place of a node: of a leaf an entry; of an inner node a node below it, with the least key that this has.
type place struct {
	key string
	val string
	kid *node
}

// half is, of a fan, how many places a node has at least, unless it is the top.
func half(fan int) int {
	return fan / 2
}

// placeOf is the place of n, which has places, in the node above it.
func placeOf(n *node) place {
	return place{key: n.places[0].key, kid: n}
}

// rising walks n's places from that one on.
func (n *node) rising(from int) iter.Seq2[int, place] {
	return func(yield func(int, place) bool) {
		for i := from; i < len(n.places); i++ {
			if !yield(i, n.places[i]) {
				return
			}
		}
	}
}

// falling walks the first places of n, so many, the last of them first.
func (n *node) falling(many int) iter.Seq2[int, place] {
	return func(yield func(int, place) bool) {
		for i := many - 1; i >= 0; i-- {
			if !yield(i, n.places[i]) {
				return
			}
		}
	}
}

// upTo is how many of n's places have a key that is not greater.
func (n *node) upTo(key string) int {
	return sort.Search(len(n.places), func(i int) bool { return n.places[i].key > key })
}

// under is the place of n at or below which that key stands, if it is there.
func (n *node) under(key string) int {
	return max(n.upTo(key)-1, 0)
}

// path walks the nodes from n down to the leaf where key is, or would be.
func (n *node) path(key string) iter.Seq[*node] {
	return func(yield func(*node) bool) {
		at := n
		for yield(at) && at.deep > leafDeep {
			at = at.places[at.under(key)].kid
		}
	}
}

// nodes walks n and all nodes below it.
func (n *node) nodes() iter.Seq[*node] {
	return func(yield func(*node) bool) { n.eachNode(yield) }
}

// eachNode has yield told n and all nodes below it, until it wants no more: false.
func (n *node) eachNode(yield func(*node) bool) bool {
	if !yield(n) {
		return false
	}
	for _, p := range n.rising(0) {
		if p.kid != nil && !p.kid.eachNode(yield) {
			return false
		}
	}
	return true
}

// from walks the entries below n from key on; the one ahead of it may be told first.
func (n *node) from(key string) iter.Seq[place] {
	return func(yield func(place) bool) { n.eachFrom(key, yield) }
}

// eachFrom has yield told what from walks, until it wants no more: false.
func (n *node) eachFrom(key string, yield func(place) bool) bool {
	for _, p := range n.rising(n.under(key)) {
		if n.deep > leafDeep && !p.kid.eachFrom(key, yield) || n.deep == leafDeep && !yield(p) {
			return false
		}
	}
	return true
}

// backFrom walks the entries below n from key back.
func (n *node) backFrom(key string) iter.Seq[place] {
	return func(yield func(place) bool) { n.eachBackFrom(key, yield) }
}

// eachBackFrom has yield told what backFrom walks, until it wants no more: false.
func (n *node) eachBackFrom(key string, yield func(place) bool) bool {
	for _, p := range n.falling(n.upTo(key)) {
		if n.deep > leafDeep && !p.kid.eachBackFrom(key, yield) || n.deep == leafDeep && !yield(p) {
			return false
		}
	}
	return true
}

// get is the entry of that key below n.
func (n *node) get(key string) (place, bool) {
	for below := range n.path(key) {
		i := below.under(key)
		if below.deep == leafDeep && i < len(below.places) && below.places[i].key == key {
			return below.places[i], true
		}
	}
	return place{}, false
}

// after is the first entry below n behind key, or at it.
func (n *node) after(key string, at bool) (place, bool) {
	for entry := range n.from(key) {
		if entry.key > key || at && entry.key == key {
			return entry, true
		}
	}
	return place{}, false
}

// before is the last entry below n ahead of key, or at it.
func (n *node) before(key string, at bool) (place, bool) {
	for entry := range n.backFrom(key) {
		if entry.key < key || at && entry.key == key {
			return entry, true
		}
	}
	return place{}, false
}

// last is the last entry below n.
func (n *node) last() (place, bool) {
	if len(n.places) == 0 {
		return place{}, false
	}
	p := n.places[len(n.places)-1]
	if n.deep > leafDeep {
		return p.kid.last()
	}
	return p, true
}

// wanted is how many nodes it takes to put one more entry of that key below n, which is the top: a full node is cut in two, and the one above it has one more place.
func (n *node) wanted(key string, fan int) int {
	want := 1 // a new top, unless a node on the way has room
	for below := range n.path(key) {
		want++
		if len(below.places) < fan {
			want = 0
		}
	}
	return want
}
