package agg

import (
	"maps"
	"slices"
	"strings"

	"cardindex/api"
	"cardindex/value"
)

// function is what a name does.
type function struct {
	ofAll bool // if not, NULL does not count
	begin func(distinct bool) tally
}

// tally is what a name does with each value, and what it tells of them. What it knows of them the two share.
type tally struct {
	step  func(v api.Value)
	final func() (api.Value, api.Errno)
}

// functions is what is done, by the names.
func functions() map[string]function {
	return map[string]function{
		"count*":       {ofAll: true, begin: counting},
		"count":        {begin: counting},
		"sum":          {begin: summing(api.Value{})},
		"total":        {begin: summing(intValue(0))},
		"min":          {begin: utmost(func(order int) bool { return order < 0 })},
		"max":          {begin: utmost(func(order int) bool { return order > 0 })},
		"group_concat": {begin: joining},
	}
}

// counting tells how many values there are.
func counting(distinct bool) tally {
	var many int64
	return tally{
		step:  onlyNew(distinct, func(api.Value) { many++ }),
		final: func() (api.Value, api.Errno) { return intValue(many), api.OK },
	}
}

// summing tells the values' sum, or none, if there is no value.
func summing(none api.Value) func(bool) tally {
	return func(distinct bool) tally {
		var sum [2]uint64
		some := false
		return tally{
			step: onlyNew(distinct, func(v api.Value) {
				sum, some = plus(sum, value.Int(v)), true
			}),
			final: func() (api.Value, api.Errno) {
				if !some {
					return none, api.OK
				}
				n, within := number(sum)
				if !within {
					return api.Value{}, api.ErrOver
				}
				return intValue(n), api.OK
			},
		}
	}
}

// utmost tells the value that is before each other one; before is asked how two compare. The same one again changes nothing: whether it is distinct need not be asked.
func utmost(before func(order int) bool) func(bool) tally {
	return func(bool) tally {
		var best api.Value // NULL till there is one
		return tally{
			step: func(v api.Value) {
				if best.Kind == api.VNull || before(value.Compare(v, best)) {
					best = own(v)
				}
			},
			final: func() (api.Value, api.Errno) { return best, api.OK },
		}
	}
}

// joining tells the values' Texts, by rising values.
func joining(distinct bool) tally {
	many := map[api.Value]int{} // how often there is each value
	size := -1                  // of what is told: ahead of each Text but the first one there is a comma
	return tally{
		step: func(v api.Value) {
			if size > api.MaxValue || distinct && many[v] > 0 {
				return
			}
			many[own(v)]++ // also where it is there: a map may take the newer one of two keys that are the same
			size += 1 + len(value.Text(v))
			if size > api.MaxValue {
				many = nil // nothing makes it shorter: its values are not asked any more
			}
		},
		final: func() (api.Value, api.Errno) {
			if size > api.MaxValue {
				return api.Value{}, api.ErrLong
			}
			return joined(many), api.OK
		},
	}
}

// joined is the Texts of values, each as often as it is there; NULL, if there is none.
func joined(many map[api.Value]int) api.Value {
	var texts []string
	for _, v := range slices.SortedFunc(maps.Keys(many), value.Compare) {
		texts = append(texts, slices.Repeat([]string{value.Text(v)}, many[v])...)
	}
	if len(texts) == 0 {
		return api.Value{}
	}
	return api.Value{Kind: api.VText, S: strings.Join(texts, ",")}
}

// onlyNew is step; of a distinct total, for the first one alone of values that are the same.
func onlyNew(distinct bool, step func(api.Value)) func(api.Value) {
	if !distinct {
		return step
	}
	// Two right values are the same by Compare just if all that they have is.
	seen := map[api.Value]struct{}{}
	return func(v api.Value) {
		if _, there := seen[v]; !there {
			seen[own(v)] = struct{}{}
			step(v)
		}
	}
}

// own is v in memory of its own, to be kept.
func own(v api.Value) api.Value {
	v.S = strings.Clone(v.S)
	return v
}

func intValue(n int64) api.Value {
	return api.Value{Kind: api.VInt, N: n}
}
