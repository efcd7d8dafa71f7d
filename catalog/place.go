package catalog

import "cardindex/api"

// place is where what is asked for stands first in a list.
func place[T any](list []T, is func(T) bool) (int, bool) {
	for i, one := range list {
		if is(one) {
			return i, true
		}
	}
	return 0, false
}

// first is what stands there, in memory of its own.
func first[T any](list []T, is func(T) bool, own func(T) T) (T, bool) {
	at, there := place(list, is)
	if !there {
		var none T
		return none, false
	}
	return own(list[at]), true
}

// only is those of a list that are so.
func only[T any](list []T, is func(T) bool) []T {
	var told []T
	for _, one := range list {
		if is(one) {
			told = append(told, one)
		}
	}
	return told
}

// each is what own makes of each of a list.
func each[T any](list []T, own func(T) T) []T {
	var told []T
	for _, one := range list {
		told = append(told, own(one))
	}
	return told
}

// all: is each of a list as it should be?
func all[T any](list []T, right func(T) bool) bool {
	_, wrong := place(list, but(right))
	return !wrong
}

// apart: are those of a list told from one another by what key tells of them?
func apart[T any, K comparable](list []T, key func(T) K) bool {
	seen := make(map[K]struct{}, len(list))
	for _, one := range list {
		seen[key(one)] = struct{}{}
	}
	return len(seen) == len(list)
}

func nameOfTable(t api.Table) string { return t.Name }
func nameOfIndex(x api.Index) string { return x.Name }
func nameOfColumn(c api.Col) string  { return c.Name }
func columnOf(c api.IndexCol) int    { return c.Col }

func tableCalled(name string) func(api.Table) bool {
	return func(t api.Table) bool { return t.Name == name }
}

func indexCalled(name string) func(api.Index) bool {
	return func(x api.Index) bool { return x.Name == name }
}

func columnCalled(name string) func(api.Col) bool {
	return func(c api.Col) bool { return c.Name == name }
}

// indexOf tells which indexes are those of a table.
func indexOf(table string) func(api.Index) bool {
	return func(x api.Index) bool { return x.Table == table }
}

// but tells which are those that is does not tell.
func but[T any](is func(T) bool) func(T) bool {
	return func(one T) bool { return !is(one) }
}
