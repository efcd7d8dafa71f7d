package tree

import "cardindex/api"

// look is what a check goes by: the arena's fan, and the numbers of the nodes that it came to.
type look struct {
	fan int
	met map[int]struct{}
}

// Check tells whether all trees have their shape.
func (a *Arena) Check() api.Errno {
	if !a.isMade() {
		return api.ErrNil
	}
	l := look{fan: a.fan, met: map[int]struct{}{}}
	for _, t := range a.now.trees {
		if !l.isWhole(t) {
			return api.ErrShape
		}
	}
	if len(l.met) != a.now.nodes || a.now.nodes > a.most {
		return api.ErrShape
	}
	return api.OK
}

// isWhole: has a tree its shape?
func (l look) isWhole(t tree) bool {
	return l.isTop(t.top) && areEntries(t)
}

// isTop: is n the top of nodes that are right?
func (l look) isTop(n *node) bool {
	if n == nil {
		return false
	}
	if n.deep == leafDeep {
		return l.isNode(n, leafDeep, 0)
	}
	return l.isNode(n, n.deep, 2)
}

// isNode: is n, with all below it, met for the first time, as deep as it must be, and does it have as many places as it may, and right ones?
func (l look) isNode(n *node, deep, least int) bool {
	if n == nil || n.deep != deep || len(n.places) < least || len(n.places) > l.fan {
		return false
	}
	if _, twice := l.met[n.number]; twice {
		return false
	}
	l.met[n.number] = struct{}{}
	for _, p := range n.rising(0) {
		if !l.isPlace(p, deep) {
			return false
		}
	}
	return true
}

// isPlace: is p a right place of a node that is so deep?
func (l look) isPlace(p place, deep int) bool {
	if deep == leafDeep {
		return p.kid == nil
	}
	return l.isNode(p.kid, deep-1, half(l.fan)) && p == placeOf(p.kid)
}

// areEntries: are the entries of a tree of right nodes as many as it tells, none too long, and each behind the one ahead of it?
func areEntries(t tree) bool {
	many, ahead := 0, ""
	for n := range t.top.nodes() {
		if n.deep > leafDeep {
			continue
		}
		for _, p := range n.rising(0) {
			if !isBehind(p, many > 0, ahead) {
				return false
			}
			many, ahead = many+1, p.key
		}
	}
	return many == t.entries
}

// isBehind: is an entry none too long, and behind the key ahead of it, if there is one?
func isBehind(entry place, isOne bool, ahead string) bool {
	if len(entry.key) > api.MaxRow || len(entry.val) > api.MaxRow {
		return false
	}
	return !isOne || entry.key > ahead
}
