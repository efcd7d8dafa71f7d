package sorter

import (
	"slices"
	"testing"

	"cardindex/api"
)

// sort_test.go: P7.2: rows in the order of their keys.

// P7.2: values of all kinds come by what Compare says of them, rising or falling, however they were added.
func TestSortByAllKinds(t *testing.T) {
	keys := inOrderOfKinds()
	var rows [][]api.Value
	for _, v := range keys {
		rows = append(rows, list(v))
	}
	falling := slices.Clone(rows)
	slices.Reverse(falling)
	for step := range len(keys) {
		for desc, want := range map[bool][][]api.Value{false: rows, true: falling} {
			for _, distinct := range []bool{false, true} {
				s := sorter(t, distinct, desc)
				for i := range keys {
					row := rows[(i*7+step)%len(keys)] // 7 and their number have no divisor in common
					add(t, s, row, row)
				}
				sort(t, s)
				holdRows(t, rest(t, s), want)
			}
		}
	}
}

// P7.2: the first column where two keys are not the same counts, each by its own flag.
func TestSortByMoreColumns(t *testing.T) {
	keys := [][]api.Value{
		list(num(1), text("b")), list(num(2), text("a")), list(num(1), text("a")), list(num(2), text("b")), list(num(1), null), list(num(1), text("ab")),
	}
	for _, c := range []struct {
		desc []bool
		want string
	}{
		{[]bool{false, false}, "ECFABD"},
		{[]bool{false, true}, "AFCEDB"},
		{[]bool{true, false}, "BDECFA"},
		{[]bool{true, true}, "DBAFCE"},
	} {
		s := sorter(t, false, c.desc...)
		letters(t, s, keys...)
		sort(t, s)
		if got := told(t, s); got != c.want {
			t.Errorf("by %v: %q, not %q", c.desc, got, c.want)
		}
	}
}

// P7.2: the last one of MaxCols columns counts, too.
func TestSortByTheLastColumn(t *testing.T) {
	desc := make([]bool, api.MaxCols)
	desc[api.MaxCols-1] = true
	s := sorter(t, true, desc...)
	for i := range 5 {
		add(t, s, append(many(api.MaxCols-1, null), num(int64(i/2))), list(num(int64(i))))
	}
	sort(t, s)
	if got := told(t, s); got != "420" {
		t.Errorf("%q", got)
	}
}

// P7.2: those of one key stay in the order in which they were added, of however many, by whatever flag.
func TestSortIsStable(t *testing.T) {
	for _, rows := range []int{0, 1, 2, 3, 4, 5, 7, 8, 9, 31, 32, 33, 100, 1000} {
		for _, keys := range []int{1, 2, 3, 10} {
			for _, desc := range []bool{false, true} {
				s := sorter(t, false, desc)
				want := make([][]api.Value, 0, rows)
				for i := range rows {
					add(t, s, list(num(int64(i*7%keys))), list(num(int64(i))))
				}
				for k := range keys {
					if desc {
						k = keys - 1 - k
					}
					for i := range rows {
						if i*7%keys == k {
							want = append(want, list(num(int64(i))))
						}
					}
				}
				sort(t, s)
				holdRows(t, rest(t, s), want)
			}
		}
	}
}

// P7.2: of a distinct one the first one of each key is left: the first one that was added.
func TestDistinct(t *testing.T) {
	for _, desc := range []bool{false, true} {
		s := sorter(t, true, desc)
		addAll(t, s, num(1), num(0), num(1), num(0), num(2), num(0), num(2), num(1))
		hasLen(t, s, 8)
		sort(t, s)
		want := "104"
		if desc {
			want = "401"
		}
		if got := told(t, s); got != want {
			t.Errorf("falling %v: %q, not %q", desc, got, want)
		}
	}
}

// P7.2: keys are the same only of the same kind; NULLs are one key.
func TestDistinctByKind(t *testing.T) {
	s := sorter(t, true, false)
	addAll(t, s, blob("1"), text("1"), num(1), null, num(1), text("1"), null, blob("1"), text(""), blob(""), text("1\x00"))
	sort(t, s)
	if got := told(t, s); got != "32811090" {
		t.Errorf("%q", got)
	}
}

// P7.2: the row tells nothing of whether rows are the same: the key alone does.
func TestDistinctIsOfKeys(t *testing.T) {
	s := sorter(t, true, false, false)
	letters(t, s, list(text("a"), text("b")), list(text("ab"), text("")), list(text(""), text("ab")), list(text("a"), text("b")))
	add(t, s, list(text("a"), text("c")), list(text("A")))
	sort(t, s)
	if got := told(t, s); got != "CAAB" {
		t.Errorf("%q", got)
	}
}

// P7.2: of a sorted one Sort is ErrNow; nothing changes, its place neither.
func TestSortTwice(t *testing.T) {
	for _, distinct := range []bool{false, true} {
		s := sorter(t, distinct, false)
		addAll(t, s, num(2), num(0), num(1))
		sort(t, s)
		for i := range 5 {
			if err := s.Sort(); err != api.ErrNow {
				t.Errorf("error %d", err)
			}
			hasLen(t, s, 3)
			row, ok := s.Next()
			if ok != (i < 3) || ok && first(row) != []int64{1, 2, 0}[i] {
				t.Errorf("row %d: %s, %v", i, short(row), ok)
			}
		}
		rewind(t, s)
		if err := s.Sort(); err != api.ErrNow {
			t.Errorf("error %d", err)
		}
		if got := told(t, s); got != "120" {
			t.Errorf("%q", got)
		}
	}
}

// first is the number that a row begins with.
func first(row []api.Value) int64 { return row[0].N }

// P7.2: a sorter without rows is sorted like any other one.
func TestSortOfNone(t *testing.T) {
	for _, distinct := range []bool{false, true} {
		for _, flags := range []int{0, 1, 200} {
			s := sorter(t, distinct, make([]bool, flags)...)
			sort(t, s)
			hasLen(t, s, 0)
			for range 2 {
				isDone(t, s)
				rewind(t, s)
			}
			if err := s.Sort(); err != api.ErrNow {
				t.Errorf("error %d", err)
			}
			if err := s.Add(many(flags, null), nil); err != api.ErrNow {
				t.Errorf("error %d", err)
			}
		}
	}
}
