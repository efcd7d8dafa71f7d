package model

import (
	"slices"
	"testing"

	"cardindex/api"
)

// P14.4: the chapter's examples.
func TestExamplesOfChanges(t *testing.T) {
	b := made("create table t (a, b)", "insert into t values (1, 10), (2, null), (3, 10)")
	b.comes(t, "insert into t (b) values (1)", "1: 1| 1 10; 2| 2 NULL; 3| 3 10; 4| NULL 1")
	b = made("create table t (a unique)", "insert into t values (1), (2)")
	b.comes(t, "update t set a = a + 1", "2: 1| 2; 2| 3")
}

// P14.4: rows are put behind those that there are: Ids go on from the greatest, from 1 on in a table without rows.
func TestInsert(t *testing.T) {
	b := made("create table u (d)", "create table t (a, b, c)")
	b.comes(t, "insert into t values (1, 'x', null)", "1: 1| 1 'x' NULL")
	b.comes(t, "insert into t values (1, 2, 3), (1, 2, 3), (x'00', 1 + 1, ?)", "3: 1| 1 2 3; 2| 1 2 3; 3| X'00' 2 'b'", text("b"))
	b.comes(t, "insert into t (c) values (1), (2)", "2: 1| NULL NULL 1; 2| NULL NULL 2")
	b.comes(t, "insert into t (c, a) values (1, 2), (?, ?)", "2: 1| 2 NULL 1; 2| NULL NULL 7", num(7))
	b.d.Rows = [][]api.Row{{row(9, null)}, {row(2, null, null, null), row(7, null, null, num(1))}}
	b.comes(t, "insert into t (b) values (5), (6)", "2: 2| NULL NULL NULL; 7| NULL NULL 1; 8| NULL 5 NULL; 9| NULL 6 NULL")
	b.comes(t, "insert into u values (5)", "1: 9| NULL; 10| 5")
}

// P14.4: what a query tells is put, of the rows as they were, in its order.
func TestInsertOfAQuery(t *testing.T) {
	b := small()
	b.comes(t, "insert into v select a from t", "4: 1| 1; 2| 2; 3| 3; 4| NULL")
	b.comes(t, "insert into u select b, a from t where a > 1 order by a desc", "2: 1| 10 'p'; 2| NULL 'q'; 3| 10 'r'; 4| 10 3; 5| NULL 2")
	b.comes(t, "insert into u (c) select sum(a) + ? from t group by b limit 2", "2: 1| 10 'p'; 2| NULL 'q'; 3| 10 'r'; 4| NULL 11; 5| NULL 9", num(7))
	b.comes(t, "insert into v select d from v", "0: ")
	b.comes(t, "insert into t (b) select a from t where a < 3", "2: 1| 1 10; 2| 2 NULL; 3| 3 10; 4| NULL 'x'; 5| NULL 1; 6| NULL 2")
	b.comes(t, "insert into v select distinct b from t", "3: 1| 10; 2| NULL; 3| 'x'")
}

// P14.4: Rows, then what each Query tells; more than one may be handed in.
func TestInsertOfAll(t *testing.T) {
	b := small()
	r := b.said("insert into v values (1), (2)")
	r.Query = []api.Query{b.query("select c from u"), b.query("select a from t where a = 3")}
	b.does(t, "all", r, "6: 1| 1; 2| 2; 3| 'p'; 4| 'q'; 5| 'r'; 6| 3")
	r.Rows = nil
	b.does(t, "two queries", r, "4: 1| 'p'; 2| 'q'; 3| 'r'; 4| 3")
	r.Query = nil
	b.does(t, "nothing", r, "0: ")
	r.Exprs, r.Where, r.Binds = []api.Expr{over()}, []api.Expr{over()}, 99
	b.does(t, "what it does not ask", r, "0: ")
}

// P14.4: places of Cols that are none are left out; columns without a value are NULL.
func TestColsOfInserts(t *testing.T) {
	b := made("create table t (a, b)")
	r := b.said("insert into t values (1, 2)")
	for _, c := range []struct {
		cols []int
		want string
	}{
		{nil, "NULL NULL"}, {[]int{0}, "1 NULL"}, {[]int{1}, "NULL 1"}, {[]int{1, 0}, "2 1"}, {[]int{2, 0}, "2 NULL"}, {[]int{-1, 1}, "NULL 2"}, {[]int{1, 77}, "NULL 1"}, {[]int{0, 1, 1}, "1 2"}, {[]int{-1 << 63, 1<<63 - 1}, "NULL NULL"}, {[]int{0, 0}, "2 NULL"}, {[]int{7, 7, 0, 1}, "NULL NULL"},
	} {
		r.Cols = c.cols
		b.does(t, "insert", r, "1: 1| "+c.want)
	}
	r.Cols = []int{5, 0}
	r.Rows[0][0] = over()
	b.does(t, "the value for no column", r, "error 20")
	r.Rows = [][]api.Expr{{}, {lit(7)}, nil}
	r.Cols = []int{1, 0}
	b.does(t, "short rows", r, "3: 1| NULL NULL; 2| NULL 7; 3| NULL NULL")
	r.Rows, r.Query = nil, []api.Query{{Items: []api.Expr{lit(1), lit(2), lit(3)}}, {Items: []api.Expr{lit(4)}}, {}}
	b.does(t, "queries", r, "3: 1| 2 1; 2| NULL 4; 3| NULL NULL")
}

// P14.4: values of an insert are computed of binds alone.
func TestInsertsHaveNoRow(t *testing.T) {
	b := made("create table t (a, b)", "insert into t values (7, 8)")
	r := b.said("insert into t values (?, ?)")
	r.Rows = append(r.Rows, []api.Expr{this(0, 0), this(0, 1)}, []api.Expr{key(0), sum(0)})
	b.does(t, "places", r, "3: 1| 7 8; 2| 1 NULL; 3| NULL NULL; 4| NULL NULL", num(1))
}

// P14.4: no Id is beyond MaxId.
func TestLastIds(t *testing.T) {
	b := made("create table t (a not null)")
	for _, c := range []struct {
		last int
		text string
		want string
	}{
		{api.MaxId, "insert into t values (1)", "error 136"}, {api.MaxId - 1, "insert into t values (1), (2)", "error 136"}, {api.MaxId - 1, "insert into t values (1)", "1: 9007199254740991| 7; 9007199254740992| 1"}, {api.MaxId - 2, "insert into t values (1), (2)", "2: 9007199254740990| 7; 9007199254740991| 1; 9007199254740992| 2"},
		{api.MaxId - 1, "insert into t select 5 where 0", "0: 9007199254740991| 7"}, {api.MaxId, "insert into t select 5 where 0", "0: 9007199254740992| 7"}, {api.MaxId, "update t set a = 1", "1: 9007199254740992| 1"}, {api.MaxId, "delete from t", "1: "},
		{api.MaxId, "insert into t values (null)", "error 136"}, {api.MaxId - 1, "insert into t values (null), (1)", "error 136"}, {api.MaxId, "insert into t values (9223372036854775807 + 1)", "error 20"}, {api.MaxId, "insert into t values (1), (9223372036854775807 + 1)", "error 20"},
	} {
		b.d.Rows[0] = []api.Row{row(c.last, num(7))}
		b.comes(t, c.text, c.want)
	}
}

// P14.4: an update changes the columns of the rows of which Where is true, all computed of the rows as they were.
func TestUpdate(t *testing.T) {
	b := small()
	for _, c := range [][2]string{
		{"update t set a = a + 1", "4: 1| 2 10; 2| 3 NULL; 3| 4 10; 4| NULL 'x'"}, {"update t set a = b, b = a", "4: 1| 10 1; 2| NULL 2; 3| 10 3; 4| 'x' NULL"}, {"update t set a = 0 where b = 10", "2: 1| 0 10; 2| 2 NULL; 3| 0 10; 4| NULL 'x'"}, {"update t set b = ? where a is null", "1: 1| 1 10; 2| 2 NULL; 3| 3 10; 4| NULL X'00'"},
		{"update t set a = 0 where b <> 10 and b is null", "0: 1| 1 10; 2| 2 NULL; 3| 3 10; 4| NULL 'x'"}, {"update t set a = a", "4: 1| 1 10; 2| 2 NULL; 3| 3 10; 4| NULL 'x'"}, {"update v set d = 1", "0: "}, {"update t set a = null, b = null where a", "3: 1| NULL NULL; 2| NULL NULL; 3| NULL NULL; 4| NULL 'x'"},
	} {
		b.comes(t, c[0], c[1], blob("\x00"))
	}
	b.d.Rows[0][2].Id, b.d.Rows[0][3].Id = 7, 11
	b.comes(t, "update t set a = 5 where a > 1", "2: 1| 1 10; 2| 5 NULL; 7| 5 10; 11| NULL 'x'")
}

// P14.4: of an update handed in otherwise: places of Cols that are none, columns without an expression, lists of more.
func TestUpdatesOfMore(t *testing.T) {
	b := made("create table t (a, b)", "insert into t values (1, 2), (3, 4)")
	r := b.said("update t set a = b, b = 7")
	for _, c := range []struct {
		cols []int
		want string
	}{
		{nil, "1| 1 2; 2| 3 4"}, {[]int{1}, "1| 1 2; 2| 3 4"}, {[]int{-1, 0}, "1| 7 2; 2| 7 4"}, {[]int{2, 1, 0}, "1| 1 7; 2| 3 7"}, {[]int{0, 0}, "1| 7 2; 2| 7 4"},
	} {
		r.Cols = c.cols
		b.does(t, "update", r, "2: "+c.want)
	}
	r.Exprs = append(r.Exprs, over())
	b.does(t, "an expression for no column", r, "error 20")
	r.Where = []api.Expr{op("=", this(0, 0), lit(3)), lit(0)}
	b.does(t, "two Wheres", r, "0: 1| 1 2; 2| 3 4")
	r.Where = []api.Expr{op("=", this(0, 0), lit(3)), op("=", this(0, 1), lit(2))}
	b.does(t, "two Wheres", r, "0: 1| 1 2; 2| 3 4")
	r.Where[1] = strange()
	b.does(t, "two Wheres", r, "error 21")
	r = b.said("update t set a = 1")
	r.Exprs[0] = op("||", this(1, 0), lit(1))
	r.Rows, r.Query = [][]api.Expr{{over()}}, []api.Query{{Items: []api.Expr{over()}}}
	b.does(t, "another source", r, "2: 1| NULL 2; 2| NULL 4")
}

// P14.4: a delete takes the rows of which Where is true.
func TestDelete(t *testing.T) {
	b := small()
	for _, c := range [][2]string{
		{"delete from t", "4: "}, {"delete from t where b = 10", "2: 2| 2 NULL; 4| NULL 'x'"}, {"delete from t where b <> 10", "1: 1| 1 10; 2| 2 NULL; 3| 3 10"}, {"delete from t where b", "2: 2| 2 NULL; 4| NULL 'x'"}, {"delete from t where null", "0: 1| 1 10; 2| 2 NULL; 3| 3 10; 4| NULL 'x'"}, {"delete from v", "0: "}, {"delete from t where a = ?", "1: 1| 1 10; 3| 3 10; 4| NULL 'x'"},
	} {
		b.comes(t, c[0], c[1], num(2))
	}
	r := b.said("delete from t where a > 1")
	r.Exprs, r.Cols = []api.Expr{over()}, []int{0}
	b.does(t, "what it does not ask", r, "2: 1| 1 10; 4| NULL 'x'")
	r.Where = append(r.Where, op("=", this(0, 1), lit(10)))
	b.does(t, "two Wheres", r, "1: 1| 1 10; 2| 2 NULL; 4| NULL 'x'")
	r.Where = append(r.Where, lit(0))
	b.does(t, "three Wheres", r, "0: 1| 1 10; 2| 2 NULL; 3| 3 10; 4| NULL 'x'")
	b.d.Rows[0] = nil
	for i := range 100001 { // more than a query may have candidates
		b.d.Rows[0] = append(b.d.Rows[0], row(i+1, num(int64(i)), null))
	}
	told, n, err := Change(b.s, b.d, b.said("delete from t where a <> 99999"), nil)
	if n != 100000 || err != api.OK || showRows(told.Rows[0]) != "100000| 99999 NULL" {
		t.Errorf("of many: %d, error %d", n, err)
	}
	told, n, err = Change(b.s, b.d, b.said("update t set b = 1 where a = 99999"), nil)
	if n != 1 || err != api.OK || showRows(told.Rows[0][99999:]) != "100000| 99999 1; 100001| 100000 NULL" {
		t.Errorf("of many: %d, error %d", n, err)
	}
}

// P14.4: ErrData, ErrBind, ErrTree, ErrNone, each ahead of those behind it.
func TestErrorsAheadOfChanges(t *testing.T) {
	b := small()
	for _, text := range []string{"insert into t values (1, 9223372036854775807 + 1)", "update t set a = 9223372036854775807 + 1", "delete from t where 9223372036854775807 + 1"} {
		r := b.said(text)
		b.does(t, text, r, "error 20")
		r.Table.Name = "none"
		b.does(t, "no table", r, "error 111")
		kind := r.Kind
		for _, r.Kind = range []api.StmtKind{0, api.SSelect, api.STable, api.SIndex, api.SDropT, api.SDropI, api.SBegin, api.SCommit, api.SRollback, 12, 255} {
			b.does(t, "another kind", r, "error 103")
		}
		b.does(t, "a wrong bind", r, "error 135", wrongValues()[0])
		right := b.d
		b.d = api.Data{Rows: b.d.Rows[1:]}
		b.does(t, "wrong rows", r, "error 134", wrongValues()[0])
		b.d = api.Data{Rows: [][]api.Row{{row(1, null), row(1)}, {row(0, wrongValues()...)}, nil}}
		b.does(t, "wrong rows", r, "error 134")
		b.d = right
		r.Kind, r.Table.Name = kind, "t"
		b.does(t, "a wrong bind", r, "error 135", num(1), wrongValues()[5])
	}
	b.does(t, "nothing", api.Res{}, "error 103")
	r := b.said("select 1")
	b.does(t, "a query", r, "error 103")
	r = b.said("delete from t")
	r.Table = api.Table{Name: "u"}
	b.does(t, "a table by its name", r, "3: ")
	r.Table.Name = "U"
	b.does(t, "no table", r, "error 111")
}

// P14.4: errors of inserts: of values, one by one; of queries; of the rows one by one; of all.
func TestErrorsOfInserts(t *testing.T) {
	b := made("create table t (a not null, b unique)", "insert into t values (1, 1)")
	for _, c := range [][2]string{
		{"insert into t values (1 + 9223372036854775807, 1 || ?)", "error 20"}, {"insert into t values (? || 1, 1 + 9223372036854775807)", "error 3"}, {"insert into t values (null, 1), (1, 1 + 9223372036854775807)", "error 20"}, {"insert into t values (null, 1)", "error 131"}, {"insert into t (b) values (7)", "error 131"},
		{"insert into t values (1, 1)", "error 132"}, {"insert into t values (1, 2), (1, 2)", "error 132"}, {"insert into t values (1, 1), (null, 2)", "error 131"}, {"insert into t values (1, 2), (1, null), (1, null)", "3: 1| 1 1; 2| 1 2; 3| 1 NULL; 4| 1 NULL"}, {"insert into t values (1, '1'), (1, x'31')", "2: 1| 1 1; 2| 1 '1'; 3| 1 X'31'"},
		{"insert into t select 1 + 9223372036854775807, 1", "error 20"}, {"insert into t select 1, 2 limit 'x'", "error 133"}, {"insert into t select * from t", "error 132"}, {"insert into t select a, b + 1 from t", "1: 1| 1 1; 2| 1 2"}, {"insert into t select null, 1", "error 131"},
	} {
		b.comes(t, c[0], c[1], text(xs(api.MaxValue)))
	}
	r := b.said("insert into t values (1, 2)")
	r.Query = []api.Query{{From: []api.Table{{Name: "none"}}}, {Limit: []api.Expr{{}}}}
	b.does(t, "a query of no table", r, "error 111")
	r.Rows[0][1] = none()
	b.does(t, "a row ahead of a query", r, "error 130")
	r.Rows = nil
	r.Query[0].From = b.s.Tables
	b.does(t, "the second query", r, "error 130")
	r.Query = []api.Query{{Items: []api.Expr{this(0, 0)}, From: slices.Repeat(b.s.Tables, 30)}}
	b.d.Rows[0] = append(b.d.Rows[0], row(2, num(1), num(2)))
	b.does(t, "too many candidates", r, "error 136")
}

// P14.4: errors of updates and deletes: Where of all rows; then Exprs of each; then the rows one by one; then all.
func TestErrorsOfUpdates(t *testing.T) {
	b := made("create table t (a not null, b unique, c)", "insert into t values (1, 1, 0), (2, 2, 0), (3, 3, 0)")
	for _, c := range [][2]string{
		{"update t set c = 9 where a + 9223372036854775804 > 0", "3: 1| 1 1 9; 2| 2 2 9; 3| 3 3 9"}, {"update t set a = ? || 1 where a + 9223372036854775805 > 0", "error 20"}, {"update t set a = a + 9223372036854775805, b = b || ?", "error 3"}, {"update t set a = a + 9223372036854775805", "error 20"}, {"update t set c = ? || 1, a = 1 + 9223372036854775807", "error 3"}, {"update t set a = 1 + 9223372036854775807, c = ? || 1", "error 20"},
		{"update t set a = a + 9223372036854775805 where a < 3", "2: 1| 9223372036854775806 1 0; 2| 9223372036854775807 2 0; 3| 3 3 0"}, {"update t set a = null", "error 131"}, {"update t set a = null where a > 3", "0: 1| 1 1 0; 2| 2 2 0; 3| 3 3 0"}, {"update t set b = 1", "error 132"}, {"update t set b = 7 where a = 2", "1: 1| 1 1 0; 2| 2 7 0; 3| 3 3 0"}, {"update t set b = 1 where a = 2", "error 132"}, {"update t set b = 1 where a = 1", "1: 1| 1 1 0; 2| 2 2 0; 3| 3 3 0"},
		{"update t set b = null", "3: 1| 1 NULL 0; 2| 2 NULL 0; 3| 3 NULL 0"}, {"update t set b = 4 - b", "3: 1| 1 3 0; 2| 2 2 0; 3| 3 1 0"}, {"update t set b = b + 1 where a < 3", "error 132"}, {"update t set b = 1, a = null where a = 3", "error 131"}, {"update t set c = a + 9223372036854775805, a = null", "error 20"},
		{"delete from t where a + 9223372036854775805 > 0", "error 20"}, {"delete from t where a + 9223372036854775804 > 0", "3: "}, {"delete from t where a = 1 or ? || 1", "error 3"},
	} {
		b.comes(t, c[0], c[1], text(xs(api.MaxValue)))
	}
}

// P14.4: of each new row, in order: ErrNull, record.Put's error, record.Key's of each index; the rows that stay are not asked.
func TestErrorsOfRows(t *testing.T) {
	zeros, full := text(string(make([]byte, api.MaxValue))), text(xs(api.MaxValue))
	b := wide(17, 8)
	b.s.Tables[0].Cols[0].NotNull = true
	r := b.said("insert into t values (1, 1, 1, 1, 1, 1, 1, 1, 1, 1, 1, 1, 1, 1, 1, 1, 1)")
	ones := r.Rows[0]
	with := func(from, to, of int) []api.Expr { // from, to: which columns are that bind
		told := slices.Clone(ones)
		for i := from; i < to; i++ {
			told[i] = bind(int64(of))
		}
		return told
	}
	null, keyLong, putLong := with(0, 1, 2), with(0, 8, 0), with(0, 16, 1)
	for _, c := range []struct {
		what string
		rows [][]api.Expr
		want string
	}{
		{"NULL", [][]api.Expr{null}, "error 131"}, {"a long key", [][]api.Expr{keyLong}, "error 3"}, {"a long row", [][]api.Expr{putLong}, "error 3"}, {"a long key, then NULL", [][]api.Expr{ones, keyLong, null}, "error 3"}, {"a long row, then NULL", [][]api.Expr{putLong, null, ones}, "error 3"}, {"NULL, then a long key", [][]api.Expr{null, keyLong}, "error 131"}, {"NULL, then a long row", [][]api.Expr{ones, null, putLong}, "error 131"},
		{"NULL in a long row", [][]api.Expr{append([]api.Expr{bind(2)}, with(1, 17, 1)[1:]...)}, "error 131"}, {"NULL in a long key", [][]api.Expr{append([]api.Expr{bind(2)}, with(0, 17, 0)[1:]...)}, "error 131"},
	} {
		r.Rows = c.rows
		b.does(t, c.what, r, c.want, zeros, full, api.Value{})
	}
	r.Rows = [][]api.Expr{with(0, 15, 1), with(0, 7, 0)}
	if told, n, err := Change(b.s, b.d, r, list(zeros, full)); err != api.OK || n != 2 || told.Rows[0][0].Vals[14] != full || told.Rows[0][1].Vals[6] != zeros {
		t.Errorf("nothing too long: %d, error %d", n, err)
	}
	b.comes(t, "insert into t (ab) values (1)", "error 131")
}

// P14.4: an update's rows are asked by each index, in all columns; those that it leaves are not changed.
func TestErrorsOfChangedRows(t *testing.T) {
	zeros := text(string(make([]byte, api.MaxValue)))
	b := made("create table t (a, b, c, d, e, f, g, h)", "create index i on t (a)", "create index j on t (h desc, g, f, e, d, c, b, a)", "insert into t values (1, 1, 1, 1, 1, 1, 1, 1), (2, 2, 2, 2, 2, 2, 2, 2)")
	b.comes(t, "update t set b = ?, c = ?, d = ?, e = ?, f = ?, g = ?, h = ?, a = ? where a = 2", "error 3", slices.Repeat(list(zeros), 8)...)
	r := b.said("update t set b = ?, c = ?, d = ?, e = ?, f = ?, g = ?, h = ? where a = 2")
	told, n, err := Change(b.s, b.d, r, slices.Repeat(list(zeros), 7))
	if n != 1 || err != api.OK || showRows(told.Rows[0][:1]) != "1| 1 1 1 1 1 1 1 1" || told.Rows[0][1].Vals[7] != zeros {
		t.Fatalf("seven: %d, error %d", n, err)
	}
	b.d = told
	if _, n, err := Change(b.s, b.d, b.said("update t set a = ?"), list(zeros)); n != 0 || err != api.ErrLong {
		t.Errorf("the eighth: %d, error %d", n, err)
	}
	if _, n, err := Change(b.s, b.d, b.said("update t set a = ? where a = 1"), list(zeros)); n != 1 || err != api.OK {
		t.Errorf("another row: %d, error %d", n, err)
	}
}

// P14.4: rows meet as they are then, in any unique index, new ones with new ones and with those that stay.
func TestRowsThatMeetThen(t *testing.T) {
	b := made("create table t (a, b)", "create unique index i on t (b desc, a)", "create index j on t (a)", "create table u (a unique)", "insert into u values (1)", "insert into t values (1, 1), (1, 2), (2, 1), (null, 1)")
	for _, c := range [][2]string{
		{"insert into t values (1, 3)", "1: 1| 1 1; 2| 1 2; 3| 2 1; 4| NULL 1; 5| 1 3"}, {"insert into t values (2, 1)", "error 132"}, {"insert into t values (null, 1), (1, null), (1, null), (null, null)", "4: 1| 1 1; 2| 1 2; 3| 2 1; 4| NULL 1; 5| NULL 1; 6| 1 NULL; 7| 1 NULL; 8| NULL NULL"}, {"insert into t values (7, 7), (7, 7)", "error 132"},
		{"update t set a = 1", "error 132"}, {"update t set a = b, b = a", "4: 1| 1 1; 2| 2 1; 3| 1 2; 4| 1 NULL"}, {"update t set b = 1 where a = 1", "error 132"}, {"update t set a = 1 where a is null", "error 132"}, {"update t set b = a", "error 132"}, {"update t set a = null", "4: 1| NULL 1; 2| NULL 2; 3| NULL 1; 4| NULL 1"}, {"insert into u select a + 1 from u", "1: 1| 1; 2| 2"}, {"insert into u values (1)", "error 132"},
	} {
		b.comes(t, c[0], c[1])
	}
}
