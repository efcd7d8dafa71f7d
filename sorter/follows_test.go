package sorter

import (
	"slices"
	"testing"

	"cardindex/api"
	"cardindex/value"
)

// follows_test.go: P7.4: what comes out is what was added, each once, in order.

// someFlags is up to that many flags.
func someFlags(next func(below int) int, most int) []bool {
	desc := make([]bool, next(most+1))
	for i := range desc {
		desc[i] = next(2) == 1
	}
	return desc
}

// somePairs is up to that many rows, each of its own number and others, with keys of few values, so that many are the same.
func somePairs(next func(below int) int, most, flags int) []pair {
	values := inOrderOfKinds()
	pairs := make([]pair, next(most+1))
	few := 1 + next(len(values))
	for i := range pairs {
		key := make([]api.Value, flags)
		for j := range key {
			key[j] = values[next(few)]
		}
		pairs[i] = pair{key: key, row: append(list(num(int64(i))), slices.Repeat(key, next(3))...)}
	}
	return pairs
}

// P7.4: rows by chance, held against the twin, which compares values.
func TestWhateverIsAdded(t *testing.T) {
	c := chance(7)
	for range 2000 {
		desc := someFlags(c.below, 4)
		pairs := somePairs(c.below, 60, len(desc))
		for _, distinct := range []bool{false, true} {
			hold(t, pairs, desc, distinct)
		}
	}
}

// P7.4: all orders of up to six rows, of three keys.
func TestAllOrdersOfFew(t *testing.T) {
	var grow func(pairs []pair)
	grow = func(pairs []pair) {
		for _, distinct := range []bool{false, true} {
			hold(t, pairs, []bool{distinct}, distinct)
			hold(t, pairs, []bool{!distinct}, distinct)
		}
		if len(pairs) == 6 {
			return
		}
		for k := range 3 {
			grow(append(pairs[:len(pairs):len(pairs)], pair{key: list(num(int64(k))), row: list(num(int64(len(pairs))))}))
		}
	}
	grow(nil)
}

// P7.4: as many rows as may be, of many keys: each comes once, those of one key in their order.
func TestAsManyAsMayBe(t *testing.T) {
	for _, distinct := range []bool{false, true} {
		c := chance(1)
		s := sorter(t, distinct, false, true)
		keys := make([][2]int64, api.MaxRows)
		once := map[[2]int64]bool{}
		for i := range keys {
			keys[i] = [2]int64{int64(c.below(100)), int64(c.below(200))}
			once[keys[i]] = true
			add(t, s, list(num(keys[i][0]), num(keys[i][1])), list(num(int64(i))))
		}
		sort(t, s)
		got := rest(t, s)
		if want := map[bool]int{false: api.MaxRows, true: len(once)}[distinct]; len(got) != want {
			t.Fatalf("%d rows, not %d", len(got), want)
		}
		for i := 1; i < len(got); i++ {
			a, b := first(got[i-1]), first(got[i])
			order := compareKeys(list(num(keys[a][0]), num(keys[a][1])), list(num(keys[b][0]), num(keys[b][1])), []bool{false, true})
			if order > 0 || order == 0 && (distinct || a >= b) {
				t.Fatalf("distinct %v: row %d ahead of row %d", distinct, a, b)
			}
		}
		if !distinct {
			continue
		}
		for _, row := range got { // no earlier one has its key
			key := keys[first(row)]
			if slices.Index(keys, key) != int(first(row)) {
				t.Fatalf("%d is not the first one of its key", first(row))
			}
		}
	}
}

// P7.4: sorters are apart: what one is given, or told, the other one does not see.
func TestSortersAreApart(t *testing.T) {
	one, two := sorter(t, false, false), sorter(t, true, true)
	for i := range 6 {
		add(t, one, list(num(int64(i/2))), list(num(int64(i))))
		hasLen(t, two, i)
		add(t, two, list(num(int64(i/2))), list(num(int64(i))))
		hasLen(t, one, i+1)
	}
	sort(t, one)
	isDone(t, two)
	one.Next()
	add(t, two, list(num(9)), list(num(6)))
	sort(t, two)
	one.Next()
	if got := told(t, two); got != "6420" {
		t.Errorf("%q", got)
	}
	if got := told(t, one); got != "2345" {
		t.Errorf("%q", got)
	}
}

// P7.4: rows that nobody thought of.
func FuzzSorter(f *testing.F) {
	f.Add(false, []byte("some rows are added here, in some order"))
	f.Add(true, []byte{2, 1, 0, 60, 5, 1, 2, 3, 4, 0, 0, 1, 1, 2, 2, 3, 3, 0, 0, 0, 9, 9, 9, 1})
	f.Fuzz(func(t *testing.T, distinct bool, b []byte) {
		next := func(below int) int {
			if len(b) == 0 {
				return 0
			}
			n := int(b[0]) % below
			b = b[1:]
			return n
		}
		desc := someFlags(next, 5)
		pairs := somePairs(next, 255, len(desc))
		for i := range pairs { // and some strings of the bytes themselves
			for j, v := range pairs[i].key {
				if n := next(5); v.Kind >= api.VText && n <= len(b) {
					pairs[i].key[j].S = string(b[:n])
				}
			}
		}
		hold(t, pairs, desc, distinct)
	})
}

// The twin is told apart from what it should not be: a check of the tests' own.
func TestTwin(t *testing.T) {
	pairs := []pair{{list(num(2)), list(text("A"))}, {list(num(1)), list(text("B"))}, {list(num(2)), list(text("C"))}, {list(null), list(text("D"))}}
	for want, how := range map[string]struct{ desc, distinct bool }{"DBAC": {false, false}, "DBA": {false, true}, "ACBD": {true, false}, "ABD": {true, true}} {
		got := ""
		for _, row := range twin(pairs, []bool{how.desc}, how.distinct) {
			got += value.Text(row[0])
		}
		if got != want {
			t.Errorf("%q, not %q", got, want)
		}
	}
}
