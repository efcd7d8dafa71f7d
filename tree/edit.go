package tree

import "slices"

// newNode is one node more, with these places, which it keeps.
func (a *Arena) newNode(deep int, places []place) *node {
	a.now.nodes++
	return a.numbered(deep, places)
}

// numbered is a node with the next number.
func (a *Arena) numbered(deep int, places []place) *node {
	a.last++
	return &node{number: a.last, deep: deep, places: places}
}

// own is a node that may be changed, in n's stead: a copy, if a Saved may have n.
func (a *Arena) own(n *node) *node {
	if n.number > a.shared {
		return n
	}
	return a.numbered(n.deep, slices.Clone(n.places))
}

// ownKid is the node below n at that place, such that it may be changed. So may n.
func (a *Arena) ownKid(n *node, i int) *node {
	kid := a.own(n.places[i].kid)
	n.places[i].kid = kid
	return kid
}

// put puts an entry below n, which may be changed. What n had too many is in a node that stands behind it, if there is any.
func (a *Arena) put(n *node, entry place) *node {
	i := n.under(entry.key)
	switch {
	case n.deep > leafDeep:
		n.settle(i, a.put(a.ownKid(n, i), entry))
	case i < len(n.places) && n.places[i].key == entry.key:
		n.places[i] = entry
	default:
		n.places = slices.Insert(n.places, n.upTo(entry.key), entry)
	}
	return a.cut(n)
}

// remove takes the entry of a key that is there from below n, which may be changed.
func (a *Arena) remove(n *node, key string) {
	i := n.under(key)
	if n.deep == leafDeep {
		n.places = slices.Delete(n.places, i, i+1)
		return
	}
	kid := a.ownKid(n, i)
	a.remove(kid, key)
	n.settle(i, nil)
	if len(kid.places) < half(a.fan) {
		a.join(n, max(i-1, 0))
	}
}

// join makes the nodes at that place of n and at the next one a single one; it is cut again, if that is too much for one.
func (a *Arena) join(n *node, i int) {
	kid := a.ownKid(n, i)
	kid.places = append(kid.places, n.places[i+1].kid.places...)
	n.places = slices.Delete(n.places, i+1, i+2)
	a.now.nodes--
	n.settle(i, a.cut(kid))
}

// cut takes the second half from a node that has too many places: it is in a new node.
func (a *Arena) cut(n *node) *node {
	if len(n.places) <= a.fan {
		return nil
	}
	mid := len(n.places) / 2
	more := a.newNode(n.deep, slices.Clone(n.places[mid:]))
	n.places = slices.Delete(n.places, mid, len(n.places))
	return more
}

// settle puts right what n tells of the node at that place, which has changed; behind it comes one more, if one was cut off it.
func (n *node) settle(i int, more *node) {
	n.places[i] = placeOf(n.places[i].kid)
	if more != nil {
		n.places = slices.Insert(n.places, i+1, placeOf(more))
	}
}
