package sorter

import (
	"strconv"
	"testing"

	"cardindex/api"
)

// sorter_test.go: P7.1, P7.3: sorters made, what they are given and tell.

// P7.1: a new sorter has no rows, by however many flags up to MaxCols.
func TestNew(t *testing.T) {
	for _, flags := range []int{0, 1, 2, 199, api.MaxCols} {
		for _, distinct := range []bool{false, true} {
			s := sorter(t, distinct, make([]bool, flags)...)
			add(t, s, many(flags, num(1)), list(text("a")))
			hasLen(t, s, 1)
			sort(t, s)
			if got := told(t, s); got != "a" {
				t.Errorf("%d flags: %q", flags, got)
			}
		}
	}
}

// P7.1: of more than MaxCols flags: ErrArg.
func TestNewOfTooManyFlags(t *testing.T) {
	for _, flags := range []int{api.MaxCols + 1, 1000} {
		for _, distinct := range []bool{false, true} {
			if s, err := New(make([]bool, flags), distinct); s != nil || err != api.ErrArg {
				t.Errorf("%d flags: %v, error %d", flags, s, err)
			}
		}
	}
}

// P7.1: each row that may be is one more, also one that is there already, by the same key or another one.
func TestAdd(t *testing.T) {
	for _, distinct := range []bool{false, true} {
		s := sorter(t, distinct, false)
		for i, key := range inOrderOfKinds() {
			add(t, s, list(key), list(key, num(1)))
			hasLen(t, s, 2*i+1)
			add(t, s, list(key), list(key, num(1)))
			hasLen(t, s, 2*i+2)
		}
	}
}

// P7.1: rows of none, of other lengths than the others, and of the greatest one; keys of the greatest one.
func TestAddEdges(t *testing.T) {
	s := sorter(t, false, false)
	longest := append(many(15, text(xs(api.MaxValue))), text(xs(api.MaxRow-15*api.MaxValue-1-16*3)))
	rows := [][]api.Value{nil, {}, list(null), many(api.MaxCols, text("")), many(api.MaxCols, blob("a")), longest}
	for i, row := range rows {
		add(t, s, list(num(int64(i))), row)
	}
	longer := append(many(15, text(xs(api.MaxValue))), text(longest[15].S+"x"))
	if err := s.Add(list(num(9)), longer); err != api.ErrLong {
		t.Errorf("a byte more: error %d", err)
	}
	sort(t, s)
	holdRows(t, rest(t, s), rows)

	wide := sorter(t, false, make([]bool, 16)...)
	key := append(many(15, text(xs(api.MaxValue))), text(xs(api.MaxRow-15*api.MaxValue-16*3)))
	add(t, wide, key, list(num(1)))
	key[15].S += "x"
	if err := wide.Add(key, list(num(2))); err != api.ErrLong {
		t.Errorf("a byte more: error %d", err)
	}
	hasLen(t, wide, 1)
}

// P7.1: Add's errors of the key, then of the row; what is refused changes nothing.
func TestAddRefused(t *testing.T) {
	right, wrong := list(num(1)), list(api.Value{Kind: 9})
	type refused struct {
		name     string
		flags    int
		key, row []api.Value
		err      api.Errno
	}
	all := []refused{
		{"a key of none", 1, nil, right, api.ErrArg},
		{"a key of more than the flags", 1, many(2, num(1)), right, api.ErrArg},
		{"a key where there are no flags", 0, right, right, api.ErrArg},
		{"a key of less than the flags", 200, many(199, num(1)), right, api.ErrArg},
		{"a key of too many", 1, many(201, num(1)), right, api.ErrLong},
		{"a key of too many, as many as may be flags", 200, many(201, num(1)), right, api.ErrLong},
		{"a key of too many wrong ones", 1, many(201, wrong[0]), right, api.ErrLong},
		{"a key of too many bytes", 17, longRow(), right, api.ErrLong},
		{"a key of too many bytes, not by the flags", 1, longRow(), right, api.ErrArg},
		{"a row of too many", 1, right, many(201, num(1)), api.ErrLong},
		{"a row of too many wrong ones", 1, right, many(201, wrong[0]), api.ErrLong},
		{"a row of too many bytes", 1, right, longRow(), api.ErrLong},
		{"a row of too many bytes with a wrong one", 1, right, append(longRow(), wrong[0]), api.ErrArg},
		{"a wrong key and a row of too many", 1, wrong, many(201, num(1)), api.ErrArg},
		{"too long a key and a wrong row", 17, longRow(), wrong, api.ErrLong},
		{"too many keys and a wrong row", 1, many(201, num(1)), wrong, api.ErrLong},
	}
	for _, v := range wrongValues() {
		all = append(all, refused{"a wrong key", 1, list(v), right, api.ErrArg}, refused{"a wrong row", 1, right, list(v), api.ErrArg},
			refused{"a wrong key behind", 3, list(null, null, v), right, api.ErrArg}, refused{"a wrong row behind", 1, right, list(null, null, v), api.ErrArg})
	}
	for _, c := range all {
		s := sorter(t, false, make([]bool, c.flags)...)
		add(t, s, many(c.flags, num(2)), list(text("a")))
		if err := s.Add(c.key, c.row); err != c.err {
			t.Errorf("%s: error %d, not %d", c.name, err, c.err)
		}
		hasLen(t, s, 1)
		add(t, s, many(c.flags, num(3)), list(text("b")))
		sort(t, s)
		if got := told(t, s); got != "ab" {
			t.Errorf("%s: %q", c.name, got)
		}
	}
}

// P7.1: of a sorted one ErrNow, ahead of what is wrong with the key and the row; it stays as it is.
func TestAddBehindSort(t *testing.T) {
	for _, rows := range []int{0, 1, 3} {
		s := sorter(t, false, false)
		addAll(t, s, inOrderOfKinds()[:rows]...)
		sort(t, s)
		s.Next()
		for _, key := range [][]api.Value{list(num(1)), nil, many(201, num(1)), list(api.Value{Kind: 9})} {
			for _, row := range [][]api.Value{nil, list(num(1)), many(201, num(1)), longRow()} {
				if err := s.Add(key, row); err != api.ErrNow {
					t.Errorf("Add(%s, %s): error %d", short(key), short(row), err)
				}
			}
		}
		hasLen(t, s, rows)
		if got := len(rest(t, s)); got != max(0, rows-1) {
			t.Errorf("%d rows are left of %d", got, rows)
		}
	}
}

// full is a sorter of MaxRows rows: of i the key is i without its lowest bits, so many.
func full(t *testing.T, distinct bool, bits int) *Sorter {
	t.Helper()
	s := sorter(t, distinct, true)
	for i := range api.MaxRows {
		add(t, s, list(num(int64(i>>bits))), list(num(int64(i))))
	}
	hasLen(t, s, api.MaxRows)
	return s
}

// P7.1: behind MaxRows rows: ErrFull, but the errors of the key and of the row are ahead of it. Those that are there are sorted as always.
func TestFull(t *testing.T) {
	for _, distinct := range []bool{false, true} {
		s := full(t, distinct, 4)
		for _, c := range []struct {
			key, row []api.Value
			err      api.Errno
		}{
			{list(num(1)), nil, api.ErrFull},
			{list(text("new")), list(text("new")), api.ErrFull},
			{nil, nil, api.ErrArg},
			{many(201, null), nil, api.ErrLong},
			{list(num(1)), list(api.Value{Kind: 9}), api.ErrArg},
			{list(num(1)), many(201, null), api.ErrLong},
		} {
			for range 2 {
				if err := s.Add(c.key, c.row); err != c.err {
					t.Errorf("Add(%s, %s): error %d, not %d", short(c.key), short(c.row), err, c.err)
				}
			}
		}
		hasLen(t, s, api.MaxRows)
		sort(t, s)
		in := 16 // rows of one key
		if distinct {
			in = 1
		}
		hasLen(t, s, api.MaxRows/16*in)
		for i := range api.MaxRows / 16 * in {
			want := int64(16*(api.MaxRows/16-1-i/in) + i%in)
			row, ok := s.Next()
			if !ok || len(row) != 1 || row[0] != num(want) {
				t.Fatalf("row %d: %s, %v, not %d", i, short(row), ok, want)
			}
		}
		isDone(t, s)
		if err := s.Add(list(num(1)), nil); err != api.ErrNow {
			t.Errorf("error %d", err)
		}
	}
}

// P7.1: a distinct one has all rows till it is sorted: it is full by them, whatever their keys.
func TestFullOfOneKey(t *testing.T) {
	s := full(t, true, 16)
	if err := s.Add(list(num(0)), nil); err != api.ErrFull {
		t.Errorf("error %d", err)
	}
	sort(t, s)
	hasLen(t, s, 1)
	if got := told(t, s); got != "0" {
		t.Errorf("%q", got)
	}
}

// P7.3: ahead of Sort there is no row, and no way ahead of the first one; asking for them changes nothing.
func TestNotSorted(t *testing.T) {
	s := sorter(t, false, false)
	for i := range 4 {
		for range 2 {
			isDone(t, s)
			if err := s.Rewind(); err != api.ErrNow {
				t.Errorf("Rewind: error %d", err)
			}
		}
		hasLen(t, s, i)
		add(t, s, list(num(int64(-i))), list(num(int64(i))))
	}
	isDone(t, s)
	sort(t, s)
	if got := told(t, s); got != "3210" {
		t.Errorf("%q", got)
	}
}

// P7.3: Next tells row by row, then none, as often as it is asked; Rewind has it begin again from wherever it is.
func TestNextAndRewind(t *testing.T) {
	for rows := range 6 {
		for ahead := range rows + 3 {
			s := sorter(t, false, false)
			want := ""
			for i := range rows {
				add(t, s, list(num(int64(i))), list(num(int64(i))))
				want += strconv.Itoa(i)
			}
			sort(t, s)
			for i := range ahead {
				row, ok := s.Next()
				if ok != (i < rows) || ok && (len(row) != 1 || row[0] != num(int64(i))) || !ok && row != nil {
					t.Fatalf("row %d of %d: %s, %v", i, rows, short(row), ok)
				}
				hasLen(t, s, rows)
			}
			for range 2 {
				rewind(t, s)
				hasLen(t, s, rows)
				if got := told(t, s); got != want {
					t.Errorf("%q, not %q", got, want)
				}
			}
		}
	}
}

// P7.3: a row without values is a row.
func TestRowsOfNone(t *testing.T) {
	s := sorter(t, false, false)
	for i := range 3 {
		add(t, s, list(num(int64(i))), nil)
	}
	sort(t, s)
	for range 3 {
		if row, ok := s.Next(); !ok || len(row) != 0 {
			t.Errorf("%s, %v", short(row), ok)
		}
	}
	isDone(t, s)
}

// P7.3: rows are told as they were added, of whatever values, and not as their keys are.
func TestRowsAreAsAdded(t *testing.T) {
	s := sorter(t, false, true, false)
	var want [][]api.Value
	for i, v := range inOrderOfKinds() {
		row := append(inOrderOfKinds()[:i], v, text(xs(i*1000)))
		add(t, s, list(null, num(int64(i))), row)
		want = append(want, row)
	}
	sort(t, s)
	holdRows(t, rest(t, s), want)
}

// P7.3: Len is of all rows, sorted or not, wherever the place is; of a distinct one sorted of those that are left.
func TestLen(t *testing.T) {
	for _, distinct := range []bool{false, true} {
		s := sorter(t, distinct, false)
		addAll(t, s, num(1), num(2), num(1), num(1), null, null)
		hasLen(t, s, 6)
		sort(t, s)
		want := 6
		if distinct {
			want = 3
		}
		hasLen(t, s, want)
		rest(t, s)
		hasLen(t, s, want)
		rewind(t, s)
		hasLen(t, s, want)
	}
}

// The chapter's examples: the keys 2, 1, 2, NULL.
func TestExamples(t *testing.T) {
	for _, c := range []struct {
		flags          []bool
		distinct       bool
		key            func(v api.Value) []api.Value
		want, wantOnce string
	}{
		{flags: []bool{false}, key: func(v api.Value) []api.Value { return list(v) }, want: "DBAC", wantOnce: "DBA"},
		{flags: []bool{true}, key: func(v api.Value) []api.Value { return list(v) }, want: "ACBD", wantOnce: "ABD"},
		{flags: nil, key: func(api.Value) []api.Value { return nil }, want: "ABCD", wantOnce: "A"},
		{flags: []bool{}, key: func(api.Value) []api.Value { return list() }, want: "ABCD", wantOnce: "A"},
	} {
		for _, distinct := range []bool{false, true} {
			s := sorter(t, distinct, c.flags...)
			letters(t, s, c.key(num(2)), c.key(num(1)), c.key(num(2)), c.key(null))
			isDone(t, s)
			sort(t, s)
			want := c.want
			if distinct {
				want = c.wantOnce
			}
			if got := told(t, s); got != want {
				t.Errorf("flags %v, distinct %v: %q, not %q", c.flags, distinct, got, want)
			}
			if err := s.Add(c.key(num(2)), nil); err != api.ErrNow {
				t.Errorf("error %d", err)
			}
		}
	}
}
