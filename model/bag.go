package model

import "cardindex/api"

// step is one on from a place, by a value.
type step struct {
	from int
	v    api.Value
}

// places tells lists of values apart: each list leads to a place of its own. Right values are the same just if nothing of them differs.
type places map[step]int

// of is the place to which a list leads from 0 on.
func (p places) of(list []api.Value) int {
	at := 0
	for _, v := range list {
		next, known := p[step{at, v}]
		if !known {
			next = len(p) + 1
			p[step{at, v}] = next
		}
		at = next
	}
	return at
}

// bag is lists of values, each as often as it was put there and not taken.
type bag struct {
	places
	many map[int]int // by their places
}

func newBag() bag {
	return bag{places{}, map[int]int{}}
}

// put puts a list there, and tells how often it was there ahead.
func (b bag) put(list []api.Value) int {
	at := b.of(list)
	ahead := b.many[at]
	b.many[at] = ahead + 1
	return ahead
}

// take takes a list away once; false, if it is not there.
func (b bag) take(list []api.Value) bool {
	at := b.of(list)
	if b.many[at] == 0 {
		return false
	}
	b.many[at]--
	return true
}
