package sorter

import (
	"slices"
	"testing"

	"cardindex/api"
)

// memory_test.go: R3, what is handed in and out; R5, objects that are none.

// roomy is l with spare room behind it, in which something stands, and all of that memory.
func roomy[T any](l []T, spare T) ([]T, []T) {
	whole := append(slices.Clone(l), spare, spare)
	return whole[:len(l)], whole
}

// fill writes v over all of l.
func fill[T any](l []T, v T) {
	l = l[:cap(l)]
	for i := range l {
		l[i] = v
	}
}

// R3: the flags are neither changed nor kept.
func TestFlagsAreNotKept(t *testing.T) {
	desc, whole := roomy([]bool{true, false}, true)
	s, err := New(desc, false)
	if err != api.OK {
		t.Fatalf("error %d", err)
	}
	letters(t, s, list(num(1), num(1)))
	fill(whole, false)
	letters(t, s, list(num(2), num(2)))
	fill(whole, true)
	add(t, s, list(num(2), num(1)), list(text("C")))
	sort(t, s)
	if got := told(t, s); got != "CAA" {
		t.Errorf("%q", got)
	}
	if !slices.Equal(whole, []bool{true, true, true, true}) {
		t.Errorf("%v", whole)
	}
	desc, whole = roomy([]bool{true, false}, true)
	New(desc, true)
	if !slices.Equal(whole, []bool{true, false, true, true}) {
		t.Error("the flags are changed")
	}
}

// R3: a key and a row are neither changed nor kept, taken or refused.
func TestWhatIsAddedIsNotKept(t *testing.T) {
	for _, distinct := range []bool{false, true} {
		s := sorter(t, distinct, false, true)
		other := api.Value{Kind: 7, N: 7, S: "other"}
		var want [][]api.Value
		for i := range 40 {
			row := list(num(int64(i)), text("it's"), blob("\x00"))
			key, wholeKey := roomy(list(num(int64(i)), text("k")), other)
			row, wholeRow := roomy(row, other)
			keyWas, rowWas := slices.Clone(wholeKey), slices.Clone(wholeRow)
			add(t, s, key, row)
			s.Add(key, wholeRow) // refused: a wrong row
			s.Add(wholeKey, row) // refused: a wrong key
			if !slices.Equal(wholeKey, keyWas) || !slices.Equal(wholeRow, rowWas) {
				t.Fatal("what was added is changed")
			}
			want = append(want, slices.Clone(row))
			fill(wholeKey, text("spoilt"))
			fill(wholeRow, text("spoilt"))
		}
		sort(t, s)
		holdRows(t, rest(t, s), want)
	}
}

// R3: what is told is new: neither the sorter's, nor that of another answer.
func TestWhatIsToldIsNew(t *testing.T) {
	s := sorter(t, false, false)
	for i := range 10 {
		add(t, s, list(num(int64(i/3))), list(num(int64(i)), text("a"), null))
	}
	sort(t, s)
	var before [][]api.Value
	for range 3 {
		got := rest(t, s)
		for i, row := range got {
			if !slices.Equal(row, list(num(int64(i)), text("a"), null)) {
				t.Fatalf("row %d: %s", i, short(row))
			}
			fill(row, text("spoilt"))
		}
		for _, row := range before {
			if slices.ContainsFunc(row, func(v api.Value) bool { return v != text("was spoilt") }) {
				t.Fatalf("%s: what was told is changed", short(row))
			}
		}
		for _, row := range got {
			fill(row, text("was spoilt"))
		}
		before = append(before, got...)
		rewind(t, s)
	}
}

// R5: a sorter that no call made answers zeros, and ErrNil, ahead of all other errors.
func TestNoSorter(t *testing.T) {
	whole, done := sorter(t, false, false), sorter(t, false, false)
	addAll(t, whole, num(2), num(1))
	addAll(t, done, num(2), num(1))
	sort(t, done)
	copied, doneCopied := *whole, *done
	for name, s := range map[string]*Sorter{"nil": nil, "none": {}, "new": new(Sorter), "a copy": &copied, "a copy of a sorted one": &doneCopied} {
		for range 2 {
			for _, key := range [][]api.Value{nil, list(num(1)), many(201, null), list(api.Value{Kind: 9})} {
				if err := s.Add(key, nil); err != api.ErrNil {
					t.Errorf("%s: Add: error %d", name, err)
				}
			}
			if err := s.Rewind(); err != api.ErrNil {
				t.Errorf("%s: Rewind: error %d", name, err)
			}
			if row, ok := s.Next(); ok || row != nil {
				t.Errorf("%s: Next: %s, %v", name, short(row), ok)
			}
			if got := s.Len(); got != 0 {
				t.Errorf("%s: Len is %d", name, got)
			}
			if err := s.Sort(); err != api.ErrNil {
				t.Errorf("%s: Sort: error %d", name, err)
			}
		}
	}
	if got := told(t, done); got != "10" {
		t.Errorf("%q", got)
	}
	hasLen(t, whole, 2)
	sort(t, whole)
	if got := told(t, whole); got != "10" {
		t.Errorf("%q", got)
	}
}
