package model

import (
	"slices"

	"cardindex/api"
)

// mayTell: may the query tell got, where all is what it tells without Limit and Offset?
func (u *underway) mayTell(all []line, got [][]api.Value) bool {
	from, to := u.part(len(all))
	if len(got) != to-from {
		return false
	}
	left := newBag()
	for _, l := range all {
		left.put(slices.Concat(l.sort, l.items))
	}
	for i, items := range got {
		if !left.take(slices.Concat(all[from+i].sort, items)) {
			return false
		}
	}
	return true
}

// areCandidates: is each of got what a candidate of its own tells, which is a row and has no error of its own?
func (u *underway) areCandidates(got [][]api.Value) bool {
	left := newBag()
	u.candidates(func(x api.Env) api.Errno {
		yes, _ := allTrue(u.Where, x)
		if !yes {
			return api.OK
		}
		if items, err := values(u.Items, x); err == api.OK {
			left.put(items)
		}
		return api.OK
	})
	return !slices.ContainsFunc(got, func(items []api.Value) bool { return !left.take(items) })
}
