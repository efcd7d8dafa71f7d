package catalog

import (
	"testing"

	"cardindex/api"
)

// apply_test.go: P11.2, what a schema comes to by a statement.

// The chapter's examples.
func TestExamples(t *testing.T) {
	s := made(t, "create table t (a unique, b)")
	want := api.Schema{Version: 2, Next: 3,
		Tables:  []api.Table{{Name: "t", Cols: []api.Col{{Name: "a", Unique: true}, {Name: "b"}}, Tree: 1}},
		Indexes: []api.Index{{Name: "#t.a", Table: "t", Cols: []api.IndexCol{{Col: 0}}, Unique: true, Tree: 2}},
	}
	if !same(s, want) {
		t.Errorf("%+v", s)
	}
	refuses(t, s, said("create index i on t (b, b)"), api.ErrTwice)
	does(t, s, "drop table t", api.Schema{Version: 3, Next: 3})
}

// P11.2.1: a table is the last one, and so is the index of each unique column, column by column.
func TestTablesAreMade(t *testing.T) {
	want := full()
	want.Version, want.Next = 8, 10
	want.Tables = append(want.Tables, api.Table{Name: "a", Cols: []api.Col{{Name: "x"}, {Name: "y", NotNull: true}}, Tree: 9})
	does(t, full(), "create table a (x, y not null)", want)

	want = full()
	want.Version, want.Next = 8, 13
	want.Tables = append(want.Tables, api.Table{Name: "i", Cols: []api.Col{{Name: "z", Unique: true}, {Name: "t"}, {Name: "a", NotNull: true, Unique: true}, {Name: "i", Unique: true}}, Tree: 9})
	want.Indexes = append(want.Indexes,
		api.Index{Name: "#i.z", Table: "i", Cols: []api.IndexCol{{Col: 0}}, Unique: true, Tree: 10},
		api.Index{Name: "#i.a", Table: "i", Cols: []api.IndexCol{{Col: 2}}, Unique: true, Tree: 11},
		api.Index{Name: "#i.i", Table: "i", Cols: []api.IndexCol{{Col: 3}}, Unique: true, Tree: 12})
	does(t, full(), "create table i (z unique, t, a not null unique, i unique)", want)
}

// P11.2.2: an index is the last one.
func TestIndexesAreMade(t *testing.T) {
	for text, x := range map[string]api.Index{
		"create index x on t (b)":                       {Name: "x", Table: "t", Cols: []api.IndexCol{{Col: 1}}, Tree: 9},
		"create unique index x on t (c desc, a)":        {Name: "x", Table: "t", Cols: []api.IndexCol{{Col: 2, Desc: true}, {Col: 0}}, Unique: true, Tree: 9},
		"create index t on t (b asc, a desc, c asc)":    {Name: "t", Table: "t", Cols: []api.IndexCol{{Col: 1}, {Col: 0, Desc: true}, {Col: 2}}, Tree: 9},
		"create unique index a on w (x)":                {Name: "a", Table: "w", Cols: []api.IndexCol{{Col: 1}}, Unique: true, Tree: 9},
		"create index u on u (a desc)":                  {Name: "u", Table: "u", Cols: []api.IndexCol{{Col: 0, Desc: true}}, Tree: 9},
		"create unique index also_of_unique on t (a) ;": {Name: "also_of_unique", Table: "t", Cols: []api.IndexCol{{Col: 0}}, Unique: true, Tree: 9},
	} {
		want := full()
		want.Version, want.Next = 8, 10
		want.Indexes = append(want.Indexes, x)
		does(t, full(), text, want)
	}
}

// P11.2.3: what is dropped is gone, a table with its indexes; what stays keeps its order and its number.
func TestDropped(t *testing.T) {
	want := full()
	want.Version, want.Tables, want.Indexes = 8, want.Tables[1:], want.Indexes[3:4]
	does(t, full(), "drop table t", want)
	want = full()
	want.Version, want.Tables = 8, append(want.Tables[:1], want.Tables[2])
	want.Indexes = append(want.Indexes[:3], want.Indexes[4])
	does(t, full(), "drop table u", want)
	want = full()
	want.Version, want.Tables = 8, want.Tables[:2]
	does(t, full(), "drop table w", want)
	want = full()
	want.Version, want.Indexes = 8, append(want.Indexes[:2], want.Indexes[3:]...)
	does(t, full(), "drop index i", want)
	want = full()
	want.Version, want.Indexes = 8, want.Indexes[:4]
	does(t, full(), "drop index k", want)
}

// P11.2: numbers of trees are not used again.
func TestNumbersAreNotUsedAgain(t *testing.T) {
	s := made(t, "create table t (a unique)", "drop table t", "create table t (a unique)")
	want := api.Schema{Version: 4, Next: 5,
		Tables:  []api.Table{{Name: "t", Cols: []api.Col{{Name: "a", Unique: true}}, Tree: 3}},
		Indexes: []api.Index{{Name: "#t.a", Table: "t", Cols: []api.IndexCol{{Col: 0}}, Unique: true, Tree: 4}}}
	if !same(s, want) {
		t.Errorf("%+v", s)
	}
	s = then(t, s, "create index i on t (a)", "drop index i", "create index i on t (a)")
	if x, ok := Index(s, "i"); !ok || x.Tree != 6 || s.Next != 7 || s.Version != 7 {
		t.Errorf("%+v", s)
	}
}

// P11.2: ErrSchema, of a schema that is not right, ahead of all else; it is told as it is.
func TestWrongSchemas(t *testing.T) {
	old := full()
	old.Version = 1<<40 + 1
	missing := full()
	missing.Indexes = missing.Indexes[1:]
	for _, s := range []api.Schema{{}, twice(), old, missing, tables(51), indexes(101)} {
		for _, x := range []api.Stmt{{}, said("select 1"), said("create table x (a)"), said("create table t (a, a)"), said("create index i on t (z)"), said("drop table t"), said("drop table none"), said("drop index i"), {Kind: api.STable}} {
			refuses(t, s, x, api.ErrSchema)
		}
	}
}

// wrongStatements is what makes or drops nothing, or is no right statement.
func wrongStatements() []api.Stmt {
	all := []api.Stmt{{}, {Kind: 12}, {Kind: 255}, {Kind: api.STable}, {Kind: api.SIndex}, {Kind: api.SDropT}, {Kind: api.SDropI},
		newTable("x"), newTable("", columns(1)...), newTable("X", columns(1)...), newTable("select", columns(1)...), newTable("#x", columns(1)...), newTable("x", api.Col{}), newTable("x", api.Col{Name: "A"}), newTable("x", api.Col{Name: "a.b", Unique: true}), newTable("x", columns(api.MaxParts+1)...),
		newIndex("x", "t"), newIndex("", "t", "a"), newIndex("#t.b", "t", "b"), newIndex("#x", "t", "b"), newIndex("x", "", "a"), newIndex("x", "T", "a"), newIndex("x", "t", "A"), newIndex("x", "t", "a", ""),
		{Kind: api.SDropT, Table: "T"}, {Kind: api.SDropT, Table: "t", Name: "t"}, {Kind: api.SDropT, Table: "t", Unique: true}, {Kind: api.SDropT, Name: "t"},
		{Kind: api.SDropI, Name: "#t.a"}, {Kind: api.SDropI, Name: "I"}, {Kind: api.SDropI, Name: "i", Table: "t"}, {Kind: api.SDropI, Table: "i"},
		{Kind: api.STable, Table: "x", Cols: columns(1), Name: "x"}, {Kind: api.STable, Table: "x", Cols: columns(1), Unique: true}, {Kind: api.SIndex, Table: "t", Name: "x", Keys: []api.KeyCol{{Name: "a"}}, Cols: columns(1)},
	}
	for _, text := range []string{"select 1", "select * from t", "insert into t values (1, 2, 3)", "update t set a = 1", "delete from t", "begin", "commit", "rollback"} {
		all = append(all, said(text))
	}
	return all
}

// P11.2: ErrTree, ahead of the rest.
func TestWrongStatements(t *testing.T) {
	last := full()
	last.Version, last.Next = 1<<40, 1<<40
	for _, s := range []api.Schema{begun(), full(), last, tables(50)} {
		for _, x := range wrongStatements() {
			refuses(t, s, x, api.ErrTree)
		}
	}
}

// A statement that stands within itself is refused, too (R1).
func TestStatementsWithinThemselves(t *testing.T) {
	kids := []api.Expr{{Kind: api.EOp, S: "-"}}
	kids[0].Kids = kids
	x := said("create table x (a)")
	x.Where = kids
	refuses(t, full(), x, api.ErrTree)
	refuses(t, full(), api.Stmt{Kind: api.SDelete, Table: "t", Where: kids}, api.ErrTree)
}

// P11.2: ErrMany of the last version, ahead of what the statement's own errors are.
func TestLastVersion(t *testing.T) {
	s := full()
	s.Version = 1 << 40
	for _, text := range []string{"create table x (a)", "create table t (a)", "create table x (a, a)", "create index x on t (a)", "create index i on t (a)", "create index x on none (a)", "create index x on t (z)", "create index x on t (a, a)", "drop table t", "drop table none", "drop index i", "drop index none"} {
		refuses(t, s, said(text), api.ErrMany)
	}
	s.Version--
	for _, text := range []string{"create table x (a)", "create index x on t (a)", "drop table t", "drop index i"} {
		if told := then(t, s, text); told.Version != 1<<40 || !Right(told) {
			t.Errorf("%s: %+v", text, told)
		}
	}
}

// P11.2: ErrMany, if there are not as many numbers left as trees are made, likewise.
func TestLastNumbers(t *testing.T) {
	for text, trees := range map[string]int{
		"create table x (a)": 1, "create table x (a, b, c not null)": 1, "create table x (a unique)": 2, "create table x (a unique, b, c not null unique)": 3,
		"create index x on t (a)": 1, "create unique index x on t (a, b)": 1, "drop table t": 0, "drop index i": 0,
	} {
		for left := range 5 {
			s := full()
			s.Next = 1<<40 - left
			if left < trees {
				refuses(t, s, said(text), api.ErrMany)
			} else if told := then(t, s, text); told.Next != s.Next+trees || !Right(told) {
				t.Errorf("%s, %d left: %+v", text, left, told)
			}
		}
	}
	for text, trees := range map[string]int{"create table t (a)": 1, "create table t (a unique)": 2, "create table x (a unique, a unique)": 3, "create table x (a unique, b, a)": 2, "create index i on t (a)": 1, "create index x on none (a)": 1, "create index x on t (z)": 1, "create index x on t (a, a)": 1} {
		for left := range 5 {
			s := full()
			s.Next = 1<<40 - left
			if _, err := Apply(s, said(text)); (err == api.ErrMany) != (left < trees) || err == api.OK {
				t.Errorf("%s, %d left: error %d", text, left, err)
			}
		}
	}
	s := full()
	s.Next = 1 << 40
	refuses(t, s, said("drop table none"), api.ErrNone)
	refuses(t, s, said("drop index none"), api.ErrNone)
}

// P11.2.1: the errors of a table to be, each ahead of those behind it.
func TestTableErrors(t *testing.T) {
	many := append(columns(31), api.Col{Name: "c0"})
	for _, c := range []struct {
		s    api.Schema
		x    api.Stmt
		want api.Errno
	}{
		{full(), said("create table t (x)"), api.ErrThere},
		{full(), said("create table w (x)"), api.ErrThere},
		{full(), said("create table t (x, x)"), api.ErrThere},
		{full(), newTable("t", many...), api.ErrThere},
		{tables(50), said("create table t49 (x)"), api.ErrThere},
		{full(), said("create table x (a, a)"), api.ErrTwice},
		{full(), said("create table x (a, b, c, a)"), api.ErrTwice},
		{full(), said("create table x (a unique, b, c, b unique, a unique)"), api.ErrTwice},
		{full(), newTable("x", many...), api.ErrTwice},
		{tables(50), said("create table x (a, a)"), api.ErrTwice},
		{indexes(100), said("create table x (a unique, a)"), api.ErrTwice},
		{full(), newTable("x", columns(31)...), api.ErrMany},
		{begun(), newTable("x", columns(31)...), api.ErrMany},
		{begun(), newTable("x", columns(api.MaxParts)...), api.ErrMany},
		{begun(), newTable("x", uniqueColumns(31)...), api.ErrMany},
		{tables(50), said("create table x (a)"), api.ErrMany},
		{indexes(100), said("create table x (a unique)"), api.ErrMany},
		{indexes(99), said("create table x (a unique, b unique)"), api.ErrMany},
		{indexes(71), newTable("x", uniqueColumns(30)...), api.ErrMany},
		{begun(), newTable("x", columns(30)...), api.OK},
		{begun(), newTable("x", uniqueColumns(30)...), api.OK},
		{tables(49), said("create table x (a)"), api.OK},
		{indexes(100), said("create table x (a, b)"), api.OK},
		{indexes(99), said("create table x (a, b unique)"), api.OK},
		{indexes(70), newTable("x", uniqueColumns(30)...), api.OK},
	} {
		if c.want != api.OK {
			refuses(t, c.s, c.x, c.want)
		} else if told, err := Apply(c.s, c.x); err != api.OK || !Right(told) || len(told.Tables) != len(c.s.Tables)+1 {
			t.Errorf("%+v: error %d", c.x, err)
		}
	}
}

// P11.2.2: the errors of an index to be, each ahead of those behind it; of its keys the first that is wrong counts.
func TestIndexErrors(t *testing.T) {
	for _, c := range []struct {
		s    api.Schema
		x    api.Stmt
		want api.Errno
	}{
		{full(), said("create index i on t (b)"), api.ErrThere},
		{full(), said("create unique index k on u (a)"), api.ErrThere},
		{full(), said("create index i on none (b)"), api.ErrThere},
		{full(), said("create index i on t (z)"), api.ErrThere},
		{indexes(100), said("create index i99 on t (c0)"), api.ErrThere},
		{full(), said("create index x on none (a)"), api.ErrNone},
		{full(), said("create index x on i (a)"), api.ErrNone},
		{full(), said("create index x on none (a, a)"), api.ErrNone},
		{begun(), said("create index x on t (a)"), api.ErrNone},
		{indexes(100), said("create index x on none (a)"), api.ErrNone},
		{full(), said("create index x on t (z)"), api.ErrColumn},
		{full(), said("create index x on t (w)"), api.ErrColumn},
		{full(), said("create index x on t (t)"), api.ErrColumn},
		{full(), said("create index x on t (z, z)"), api.ErrColumn},
		{full(), said("create index x on t (a, z)"), api.ErrColumn},
		{full(), said("create index x on t (z, a, a)"), api.ErrColumn},
		{indexes(100), said("create index x on t (z)"), api.ErrColumn},
		{full(), said("create index x on t (a, a)"), api.ErrTwice},
		{full(), said("create index x on t (a, a desc)"), api.ErrTwice},
		{full(), said("create index x on t (a, b, c, b)"), api.ErrTwice},
		{full(), said("create index x on t (a, a, z)"), api.ErrTwice},
		{full(), said("create index x on u (a, a)"), api.ErrTwice},
		{indexes(100), said("create index x on t (c0, c0)"), api.ErrTwice},
		{indexes(100), said("create index x on t (c0)"), api.ErrMany},
		{indexes(100), said("create unique index x on t (c0, c1)"), api.ErrMany},
		{indexes(99), said("create index x on t (c0)"), api.OK},
		{full(), said("create index x on t (c, b, a)"), api.OK},
	} {
		if c.want != api.OK {
			refuses(t, c.s, c.x, c.want)
		} else if told, err := Apply(c.s, c.x); err != api.OK || !Right(told) || len(told.Indexes) != len(c.s.Indexes)+1 {
			t.Errorf("%+v: error %d", c.x, err)
		}
	}
}

// A key that is there again behind one that is no column: keys are asked one by one.
func TestKeysAreAskedOneByOne(t *testing.T) {
	refuses(t, full(), said("create index x on t (a, z, a)"), api.ErrColumn)
	refuses(t, full(), said("create index x on t (a, b, a, z)"), api.ErrTwice)
}

// P11.2.3: what is not there cannot be dropped.
func TestDropErrors(t *testing.T) {
	for _, text := range []string{"drop table none", "drop table i", "drop table a", "drop index none", "drop index t", "drop index a"} {
		refuses(t, full(), said(text), api.ErrNone)
		refuses(t, begun(), said(text), api.ErrNone)
	}
	s := then(t, full(), "drop index i", "drop table u")
	refuses(t, s, said("drop index i"), api.ErrNone)
	refuses(t, s, said("drop index j"), api.ErrNone)
	refuses(t, s, said("drop table u"), api.ErrNone)
}
