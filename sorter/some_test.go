package sorter

import (
	"slices"
	"strings"
	"testing"

	"cardindex/api"
	"cardindex/value"
)

// some_test.go: what the tests are made of; a twin of a sorter, that compares values and knows no keys' bytes.

var null = api.Value{}

func num(n int64) api.Value   { return api.Value{Kind: api.VInt, N: n} }
func text(s string) api.Value { return api.Value{Kind: api.VText, S: s} }
func blob(s string) api.Value { return api.Value{Kind: api.VBlob, S: s} }

// list is values as a row, or as a key.
func list(l ...api.Value) []api.Value { return l }

// many is n times v.
func many(n int, v api.Value) []api.Value { return slices.Repeat(list(v), n) }

// xs is n bytes.
func xs(n int) string { return strings.Repeat("x", n) }

// inOrderOfKinds: values of each kind, from the least one on.
func inOrderOfKinds() []api.Value {
	return list(null,
		num(-1<<63), num(-256), num(-2), num(-1), num(0), num(1), num(2), num(255), num(256), num(1<<63-1),
		text(""), text("\x00"), text("\x00\x00"), text("\x00\x01"), text("\x00\xff"), text("\x01"), text("1"), text("a"), text("a\x00"), text("ab"), text("b"), text("\xff"), text("\xff\x00"),
		blob(""), blob("\x00"), blob("1"), blob("a"), blob("a\x00b"), blob("\xff"))
}

// wrongValues: of a kind that is none, with what their kind does not name, or too long.
func wrongValues() []api.Value {
	return list(
		api.Value{Kind: 4}, api.Value{Kind: 255}, api.Value{N: 1}, api.Value{S: "a"}, api.Value{Kind: api.VInt, S: "a"},
		api.Value{Kind: api.VText, N: 1}, text(xs(api.MaxValue+1)), api.Value{Kind: api.VBlob, N: -1, S: "a"}, blob(xs(api.MaxValue+1)),
	)
}

// longRow is a row whose bytes, and whose key, are more than MaxRow; each value is right.
func longRow() []api.Value { return many(17, text(xs(api.MaxValue))) }

// sorter is a new sorter without rows.
func sorter(t *testing.T, distinct bool, desc ...bool) *Sorter {
	t.Helper()
	s, err := New(desc, distinct)
	if err != api.OK || s == nil {
		t.Fatalf("New(%v, %v): error %d", desc, distinct, err)
	}
	hasLen(t, s, 0)
	return s
}

// add adds a row that may be.
func add(t *testing.T, s *Sorter, key, row []api.Value) {
	t.Helper()
	if err := s.Add(key, row); err != api.OK {
		t.Fatalf("Add(%s, %s): error %d", short(key), short(row), err)
	}
}

// addAll adds for each key a row of its number, from 0 on.
func addAll(t *testing.T, s *Sorter, keys ...api.Value) {
	t.Helper()
	for i, key := range keys {
		add(t, s, list(key), list(num(int64(i))))
	}
}

// letters adds for each key a row of a letter, from A on.
func letters(t *testing.T, s *Sorter, keys ...[]api.Value) {
	t.Helper()
	for i, key := range keys {
		add(t, s, key, list(text(string(rune('A'+i)))))
	}
}

// sort sorts a sorter that is not sorted.
func sort(t *testing.T, s *Sorter) {
	t.Helper()
	if err := s.Sort(); err != api.OK {
		t.Fatalf("Sort: error %d", err)
	}
}

// rewind rewinds a sorter that is sorted.
func rewind(t *testing.T, s *Sorter) {
	t.Helper()
	if err := s.Rewind(); err != api.OK {
		t.Fatalf("Rewind: error %d", err)
	}
}

// hasLen: s has so many rows.
func hasLen(t *testing.T, s *Sorter, want int) {
	t.Helper()
	if got := s.Len(); got != want {
		t.Fatalf("Len is %d, not %d", got, want)
	}
}

// isDone: there is no row behind s's place.
func isDone(t *testing.T, s *Sorter) {
	t.Helper()
	if row, ok := s.Next(); ok || row != nil {
		t.Fatalf("Next: %s, %v", short(row), ok)
	}
}

// rest is the rows behind s's place; more than MaxRows are not asked for.
func rest(t *testing.T, s *Sorter) [][]api.Value {
	t.Helper()
	var rows [][]api.Value
	for row, ok := s.Next(); ok; row, ok = s.Next() {
		if len(rows) == api.MaxRows {
			t.Fatal("no end")
		}
		rows = append(rows, row)
	}
	isDone(t, s)
	return rows
}

// told is the first values of the rows behind s's place, one behind the other.
func told(t *testing.T, s *Sorter) string {
	t.Helper()
	var out strings.Builder
	for _, row := range rest(t, s) {
		out.WriteString(value.Text(row[0]))
	}
	return out.String()
}

// pair is a row and its key.
type pair struct {
	key, row []api.Value
}

// compareKeys is -1, 0 or 1, as the key a is below b by these flags, the same, or above.
func compareKeys(a, b []api.Value, desc []bool) int {
	for i, falling := range desc {
		c := value.Compare(a[i], b[i])
		if falling {
			c = -c
		}
		if c != 0 {
			return c
		}
	}
	return 0
}

// twin is the rows that a sorter tells, said in another way: each one is put behind the last one that it does not come ahead of.
func twin(pairs []pair, desc []bool, distinct bool) [][]api.Value {
	var done []pair
	for _, p := range pairs {
		at := len(done)
		for at > 0 && compareKeys(p.key, done[at-1].key, desc) < 0 {
			at--
		}
		if distinct && at > 0 && compareKeys(p.key, done[at-1].key, desc) == 0 {
			continue
		}
		done = slices.Insert(done, at, p)
	}
	rows := make([][]api.Value, len(done))
	for i, p := range done {
		rows[i] = p.row
	}
	return rows
}

// holdRows holds rows against those that there should be.
func holdRows(t *testing.T, got, want [][]api.Value) {
	t.Helper()
	if len(got) != len(want) {
		t.Fatalf("%d rows, not %d", len(got), len(want))
	}
	for i := range got {
		if !slices.Equal(got[i], want[i]) {
			t.Fatalf("row %d: %s, not %s", i, short(got[i]), short(want[i]))
		}
	}
}

// hold adds these to a new sorter, and holds what it tells, twice, against its twin.
func hold(t *testing.T, pairs []pair, desc []bool, distinct bool) {
	t.Helper()
	s := sorter(t, distinct, desc...)
	for i, p := range pairs {
		add(t, s, p.key, p.row)
		hasLen(t, s, i+1)
	}
	sort(t, s)
	want := twin(pairs, desc, distinct)
	for range 2 {
		hasLen(t, s, len(want))
		holdRows(t, rest(t, s), want)
		rewind(t, s)
	}
}

// short is a row as it is told in a test's message.
func short(row []api.Value) string {
	var l []string
	for _, v := range row {
		v.S = v.S[:min(len(v.S), 20)]
		l = append(l, value.Show(v))
	}
	s := strings.Join(l, ", ")
	return "(" + s[:min(len(s), 200)] + ")"
}

// chance tells numbers that look like none in particular, always the same.
type chance uint64

func (c *chance) below(n int) int {
	*c = *c*6364136223846793005 + 1442695040888963407
	return int(uint64(*c) >> 33 % uint64(n))
}
