package catalog

import (
	"testing"

	"cardindex/api"
)

// follows_test.go: P11.3, what follows; Apply and Right held against their twins.

// stmt is some statement about few names, now and then a wrong one.
func (c *chance) stmt() api.Stmt {
	table, index := of(c, "t", "u", "v", "w"), of(c, "i", "j", "k", "t")
	column := func() string { return of(c, "a", "b", "c", "d", "e", "f") }
	switch c.below(10) {
	case 0, 1, 2:
		x := newTable(table)
		for range 1 + c.below(4) {
			x.Cols = append(x.Cols, api.Col{Name: column(), NotNull: c.is(), Unique: c.below(3) == 0})
		}
		return x
	case 3, 4, 5:
		x := newIndex(index, table)
		for range 1 + c.below(3) {
			x.Keys = append(x.Keys, api.KeyCol{Name: column(), Desc: c.is()})
		}
		x.Unique = c.is()
		return x
	case 6:
		return api.Stmt{Kind: api.SDropT, Table: table}
	case 7:
		return api.Stmt{Kind: api.SDropI, Name: index}
	case 8:
		return of(c, wrongStatements()...)
	}
	x := newTable(table)
	for i := range 25 + c.below(8) {
		x.Cols = append(x.Cols, api.Col{Name: numbered("c", i), Unique: c.below(3) > 0})
	}
	return x
}

// P11.2, P11.3: statements by chance, one behind the other: a right schema stays right, and comes to what the twin does.
func TestRightStaysRight(t *testing.T) {
	c := newChance(1)
	met := map[api.Errno]int{}
	for n := range 300 {
		version, next := 1, 1
		if n%5 == 0 {
			version, next = 1<<40-c.below(30), 1<<40-c.below(100)
		}
		w := newTwin(version, next)
		s := w.schema()
		for range 60 {
			x := c.stmt()
			was := copied(s)
			got, err := Apply(s, x)
			wantErr := w.apply(x)
			if err != wantErr || !same(got, w.schema()) {
				t.Fatalf("%+v: %+v, error %d, not %+v, error %d", x, got, err, w.schema(), wantErr)
			}
			if !Right(got) || len(faults(got)) > 0 {
				t.Fatalf("%+v: %+v is not right", x, got)
			}
			if !same(s, was) || err != api.OK && !same(got, was) {
				t.Fatalf("%+v: %+v is changed", x, s)
			}
			met[err]++
			s = got
		}
		numbersStay(t, w, s)
	}
	for _, err := range []api.Errno{api.OK, api.ErrTree, api.ErrMany, api.ErrThere, api.ErrTwice, api.ErrNone, api.ErrColumn} {
		if met[err] < 50 {
			t.Errorf("error %d is met %d times", err, met[err])
		}
	}
}

// numbersStay asks whether what has a tree is what that number was given to.
func numbersStay(t *testing.T, w *twin, s api.Schema) {
	t.Helper()
	for _, x := range s.Tables {
		if w.made[x.Tree] != x.Name {
			t.Fatalf("%+v has the tree of %q", x, w.made[x.Tree])
		}
	}
	for _, x := range s.Indexes {
		if w.made[x.Tree] != x.Name {
			t.Fatalf("%+v has the tree of %q", x, w.made[x.Tree])
		}
	}
}

// spoil changes something of a schema, which may be right then or not.
func (c *chance) spoil(s *api.Schema) {
	number := func() int { return c.below(12) - 1 }
	name := func() string {
		return of(c, "t", "u", "w", "i", "j", "a", "b", "c", "#t.a", "#t.b", "#t.c", "#u.a", "#w.w", "", "T", "is", "a.b")
	}
	switch c.below(5) {
	case 0:
		*of(c, &s.Version, &s.Next) = of(c, number(), number(), 1<<40, 1<<40+1)
	case 1, 2:
		if len(s.Tables) > 0 {
			c.spoilTable(s, c.below(len(s.Tables)), number, name)
		}
	default:
		if len(s.Indexes) > 0 {
			c.spoilIndex(s, c.below(len(s.Indexes)), number, name)
		}
	}
}

func (c *chance) spoilTable(s *api.Schema, at int, number func() int, name func() string) {
	x := &s.Tables[at]
	switch c.below(7) {
	case 0:
		x.Tree = number()
	case 1:
		x.Name = name()
	case 2:
		x.Cols = append(x.Cols, api.Col{Name: name(), Unique: c.below(4) == 0})
	case 3:
		s.Tables = append(s.Tables[:at], s.Tables[at+1:]...)
	case 4:
		s.Tables = append(s.Tables, *x)
	default:
		if len(x.Cols) == 0 {
			return
		}
		col := &x.Cols[c.below(len(x.Cols))]
		if c.is() {
			col.Name = name()
		} else {
			col.Unique = !col.Unique
		}
	}
}

func (c *chance) spoilIndex(s *api.Schema, at int, number func() int, name func() string) {
	x := &s.Indexes[at]
	switch c.below(9) {
	case 0:
		x.Tree = number()
	case 1:
		x.Name = name()
	case 2:
		x.Table = name()
	case 3:
		x.Unique = !x.Unique
	case 4:
		x.Cols = append(x.Cols, api.IndexCol{Col: c.below(5) - 1, Desc: c.is()})
	case 5:
		s.Indexes = append(s.Indexes[:at], s.Indexes[at+1:]...)
	case 6:
		s.Indexes = append(s.Indexes, *x)
	case 7:
		x.Cols = nil
	default:
		if len(x.Cols) == 0 {
			return
		}
		col := &x.Cols[c.below(len(x.Cols))]
		if c.is() {
			col.Col = c.below(5) - 1
		} else {
			col.Desc = !col.Desc
		}
	}
}

// P11.1: schemas of which something is changed: Right is what the twin says; one that is not right is refused, one that is right stays so.
func TestSpoiltSchemas(t *testing.T) {
	c := newChance(2)
	right, wrong := 0, map[string]int{}
	for range 20000 {
		s := full()
		for range 1 + c.below(3) {
			c.spoil(&s)
		}
		s = copied(s)
		what := faults(s)
		if Right(s) != (len(what) == 0) {
			t.Fatalf("%+v: right %v, the twin says %q", s, Right(s), what)
		}
		told, err := Apply(s, c.stmt())
		if (err == api.ErrSchema) != (len(what) > 0) || Right(told) != (len(what) == 0) {
			t.Fatalf("%+v: error %d, %+v", s, err, told)
		}
		if len(what) == 0 {
			right++
		}
		if len(what) == 1 {
			wrong[what[0]]++
		}
	}
	if right < 1000 {
		t.Errorf("%d are right", right)
	}
	for _, what := range []string{"Version", "Next", "a table's name", "a column's name", "columns of one name", "tables of one name", "an index of no table", "an index of so many columns", "an index of no column", "an index of a column twice", "an index's name", "a unique column's index", "no index of a unique column", "a tree twice", "a tree's number", "indexes of one name"} {
		if wrong[what] < 5 {
			t.Errorf("%s alone is met %d times", what, wrong[what])
		}
	}
}
