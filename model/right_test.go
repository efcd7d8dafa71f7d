package model

import (
	"slices"
	"testing"

	"cardindex/api"
)

// right asks whether rows of the first table are right, all other tables having none.
func (b *base) right(t *testing.T, want bool, rows ...api.Row) {
	t.Helper()
	d := api.Data{Rows: make([][]api.Row, len(b.s.Tables))}
	d.Rows[0] = rows
	if Right(b.s, d) != want {
		t.Errorf("right rows: %v: %s", !want, showRows(rows))
	}
}

// P14.1: there are as many lists of rows as tables, of a right schema.
func TestAsManyListsAsTables(t *testing.T) {
	b := made("create table t (a)", "create table u (a, b)")
	one := []api.Row{row(1, null)}
	for _, c := range []struct {
		rows [][]api.Row
		want bool
	}{
		{nil, false}, {[][]api.Row{{}}, false}, {[][]api.Row{{}, {}}, true}, {[][]api.Row{nil, nil}, true}, {[][]api.Row{nil, nil, nil}, false},
		{[][]api.Row{one, nil}, true}, {[][]api.Row{nil, one}, false}, {[][]api.Row{one}, false}, {[][]api.Row{nil, {row(1, null, null)}}, true}, {[][]api.Row{one, {row(1, num(1), text(""))}}, true},
	} {
		if Right(b.s, api.Data{Rows: c.rows}) != c.want {
			t.Errorf("right rows: %v: %s", !c.want, showData(api.Data{Rows: c.rows}))
		}
	}
	empty := api.Schema{Version: 1, Next: 1}
	if !Right(empty, api.Data{}) || !Right(empty, api.Data{Rows: [][]api.Row{}}) || Right(empty, api.Data{Rows: [][]api.Row{nil}}) {
		t.Error("of no tables")
	}
}

// P14.1: the schema is right.
func TestRightRowsOfNoRightSchema(t *testing.T) {
	for _, spoil := range []func(s *api.Schema){
		func(s *api.Schema) { s.Version = 0 }, func(s *api.Schema) { s.Next = 0 }, func(s *api.Schema) { s.Tables[0].Name = "" }, func(s *api.Schema) { s.Tables[0].Cols = nil },
		func(s *api.Schema) { s.Indexes[0].Unique = false }, func(s *api.Schema) { s.Indexes = nil }, func(s *api.Schema) { s.Indexes[1].Cols[0].Col = 7 }, func(s *api.Schema) { s.Indexes[1].Table = "none" },
	} {
		b := made("create table t (a unique)", "create index i on t (a)")
		b.right(t, true)
		spoil(&b.s)
		b.right(t, false)
		b.right(t, false, row(1, null))
	}
	if Right(api.Schema{}, api.Data{}) {
		t.Error("of no schema")
	}
}

// P14.1: Ids rise from 1 on, none twice, up to MaxId.
func TestIdsRise(t *testing.T) {
	b := made("create table t (a)")
	for _, c := range []struct {
		ids  []int
		want bool
	}{
		{[]int{1}, true}, {[]int{2}, true}, {[]int{1, 2, 3}, true}, {[]int{1, 5, 7}, true}, {[]int{api.MaxId}, true}, {[]int{1, api.MaxId - 1, api.MaxId}, true},
		{[]int{0}, false}, {[]int{-1}, false}, {[]int{0, 1}, false}, {[]int{-1, 1}, false}, {[]int{1, 1}, false}, {[]int{2, 1}, false}, {[]int{1, 3, 2}, false}, {[]int{1, 2, 2}, false}, {[]int{1, 2, 0}, false}, {[]int{api.MaxId + 1}, false}, {[]int{1, api.MaxId + 1}, false}, {[]int{-1 << 63}, false}, {[]int{1<<63 - 1}, false},
	} {
		var rows []api.Row
		for _, id := range c.ids {
			rows = append(rows, row(id, num(7)))
		}
		b.right(t, c.want, rows...)
	}
}

// P14.1: a row has a right value for each column.
func TestValuesOfRows(t *testing.T) {
	b := made("create table t (a, b)")
	for _, v := range list(null, num(0), num(-1<<63), num(1<<63-1), text(""), text("a"), text(xs(api.MaxValue)), blob(""), blob("\x00"), blob(xs(api.MaxValue))) {
		b.right(t, true, row(1, v, v))
		b.right(t, false, row(1, v))
		b.right(t, false, row(1, v, v, v))
		b.right(t, false, row(1, v, v), row(2, v))
	}
	b.right(t, false, row(1))
	for _, wrong := range wrongValues() {
		b.right(t, false, row(1, null, wrong))
		b.right(t, false, row(1, wrong, null))
		b.right(t, false, row(1, null, null), row(2, wrong, null))
	}
}

// P14.1: NULL stands not where the column is NotNull.
func TestNotNull(t *testing.T) {
	b := made("create table t (a, b not null, c not null unique)")
	b.right(t, true, row(1, null, num(0), text("")), row(2, num(1), blob(""), num(0)))
	b.right(t, false, row(1, num(1), null, num(1)))
	b.right(t, false, row(1, num(1), num(1), null))
	b.right(t, false, row(1, num(1), num(1), num(1)), row(2, num(1), num(1), null))
}

// wide is t with so many columns, a0 to .., and an index on so many of them.
func wide(cols, of int) *base {
	names, index := "", ""
	for i := range cols {
		name := "a" + string(rune('a'+i))
		names += ", " + name
		if i < of {
			index += ", " + name
		}
	}
	return made("create table t ("+names[2:]+")", "create index i on t ("+index[2:]+")")
}

// P14.1: a row's bytes are at most MaxRow: the head's 49, and those of 16 texts.
func TestRowsAreSound(t *testing.T) {
	b := wide(16, 1)
	all := slices.Repeat(list(text(xs(api.MaxValue))), 15)
	b.right(t, true, row(1, append(all, text(xs(65487)))...))
	b.right(t, false, row(1, append(all, text(xs(65488)))...))
	b.right(t, false, row(1, append(all, text(xs(api.MaxValue)))...))
	b.right(t, false, row(1, make([]api.Value, 16)...), row(2, append(all, text(xs(65488)))...))
}

// P14.1: a key of an index is at most MaxRow bytes, the Id's 9 among them: a text of bytes 0 has twice as many there, and three.
func TestKeysAreSound(t *testing.T) {
	zeros := string(make([]byte, api.MaxValue))
	all := slices.Repeat(list(text(zeros)), 7)
	longer, shorter := text(zeros[:65519]+"xx"), text(zeros[:65519]+"x")
	b := wide(9, 8)
	b.right(t, true, row(1, append(all, shorter, null)...))
	b.right(t, true, row(api.MaxId, append(all, shorter, text("x"))...))
	b.right(t, false, row(1, append(all, longer, null)...))
	b.right(t, true, row(1, append(all, text(""), longer)...)) // that is no column of the index
	b = made("create table t (a, b, c, d, e, f, g, h)", "create table u (a, b, c, d, e, f, g, h)", "create index i on t (a)", "create index j on u (a, b, c, d, e, f, g, h)", "create index k on t (a desc, b, c, d, e, f, g)")
	b.right(t, true, row(1, append(all, longer)...)) // the index of all is another table's
	b = made("create table t (a, b, c, d, e, f, g, h)", "create index i on t (a)", "create unique index k on t (h desc, g, f, e, d, c, b, a desc)")
	b.right(t, true, row(1, append(all, shorter)...))
	b.right(t, false, row(1, append(all, longer)...))
	b.right(t, false, row(1, make([]api.Value, 8)...), row(2, append(all, longer)...))
}

// P14.1: no two rows meet in a unique index; NULL meets nothing.
func TestRowsThatMeet(t *testing.T) {
	few := list(null, num(0), num(1), text("1"), text(""), blob("1"), blob(""), text("a"), text("A"))
	b, plain, falls := made("create table t (a unique)"), made("create table t (a)", "create index i on t (a)"), made("create table t (a)", "create unique index i on t (a desc)")
	for _, v := range few {
		for _, w := range few {
			apart := v != w || v == null
			b.right(t, apart, row(1, v), row(2, w))
			b.right(t, apart, row(1, v), row(3, num(77)), row(4, null), row(6, w))
			falls.right(t, apart, row(1, v), row(2, w))
			plain.right(t, true, row(1, v), row(2, w))
		}
	}
}

// P14.1: rows meet in an index of two columns, if both are the same.
func TestRowsThatMeetInTwo(t *testing.T) {
	few := list(null, num(1), text("1"), text("11"), text(""))
	b := made("create table t (a, b, c)", "create index h on t (a)", "create unique index i on t (c, a desc)")
	for _, v := range few {
		for _, w := range few {
			for _, x := range few {
				for _, y := range few {
					meet := v == x && w == y && v != null && w != null
					b.right(t, !meet, row(1, v, num(1), w), row(2, x, num(1), y))
				}
			}
		}
	}
	b = made("create table t (a unique, b unique)")
	b.right(t, true, row(1, num(1), num(2)), row(2, num(2), num(1)))
	b.right(t, false, row(1, num(1), num(2)), row(2, num(2), num(2)))
	b.right(t, false, row(1, num(1), num(2)), row(2, num(1), num(1)))
}

// P14.1: each table is asked, by its own indexes.
func TestEachTableIsAsked(t *testing.T) {
	b := made("create table t (a unique)", "create table u (a)", "create table v (a not null unique)")
	twice, once := []api.Row{row(1, num(1)), row(2, num(1))}, []api.Row{row(1, num(1))}
	for _, c := range []struct {
		rows [][]api.Row
		want bool
	}{
		{[][]api.Row{once, twice, once}, true}, {[][]api.Row{twice, once, once}, false}, {[][]api.Row{once, once, twice}, false}, {[][]api.Row{once, twice, nil}, true}, {[][]api.Row{nil, {row(1, null), row(2, null)}, once}, true}, {[][]api.Row{once, once, {row(1, null)}}, false},
	} {
		if Right(b.s, api.Data{Rows: c.rows}) != c.want {
			t.Errorf("right rows: %v: %s", !c.want, showData(api.Data{Rows: c.rows}))
		}
	}
}
