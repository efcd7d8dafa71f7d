package parse

import (
	"math"
	"reflect"
	"strings"
	"testing"

	"cardindex/api"
)

// follows_test.go: P10.3, what follows; Parse, Show and Right held against their twins.

// hold asks of any text: what is wrong with it is what the grammar says; what is parsed is right, shown and parsed to the same.
func hold(t *testing.T, r rules, text string) {
	t.Helper()
	s, f := Parse(text)
	want := r.wrong(text)
	switch {
	case want == (api.Fault{}) && f == (api.Fault{Err: api.ErrNested}):
		// how much it is, other tests ask
	case f != want:
		t.Fatalf("%q: fault %v, not %v", text, f, want)
	case f.Err != api.OK && !reflect.DeepEqual(s, api.Stmt{}):
		t.Fatalf("%q: %+v beside a fault", text, s)
	case f.Err == api.OK:
		follows(t, text, s)
	}
}

// follows asks of what is parsed whether it is right, and parsed to the same if it is shown.
func follows(t *testing.T, text string, s api.Stmt) {
	t.Helper()
	if !Right(s) {
		t.Fatalf("%q: not right: %+v", short(text), s)
	}
	shown, err := Show(s)
	if want := (speller{}).stmt(s); err == api.OK && shown != want || (err != api.OK) != (len(want) > api.MaxText) {
		t.Fatalf("%q: shown %q, error %d, not %q", short(text), short(shown), err, short(want))
	}
	if err == api.OK {
		says(t, shown, s)
	}
}

// P10.3: right statements, as they are shown, and as they are said with more parentheses, or fewer, and with what says nothing.
func TestWhatIsShownIsParsed(t *testing.T) {
	c := newChance(1)
	r := readGrammar()
	for n := range 3000 {
		s := c.stmt()
		follows(t, "a statement", s)
		said := (speller{c}).stmt(s)
		says(t, said, s)
		says(t, c.put(tokens(said)), s)
		if n%10 == 0 && len(said) < 500 {
			hold(t, r, said)
		}
	}
}

// P10.1, P10.3: statements with tokens changed, put between, gone, put twice or changed with each other.
func TestWhateverIsSaid(t *testing.T) {
	c := newChance(2)
	r := readGrammar()
	others := strings.Fields("and as asc begin between by cast commit create delete desc distinct drop from group having in index insert int into is join like limit not null offset on or order rollback select set table text unique update values where || <> <= >= = < > + - * / % ( ) , . ; ? a b 1 'x' x'00' @ 'a")
	for range 6000 {
		all := tokens((speller{c}).stmt(c.stmt()))
		if len(all) > 80 {
			continue
		}
		for range 1 + c.below(2) {
			at := c.below(len(all))
			other := of(c, others...)
			switch c.below(5) {
			case 0:
				all[at] = other
			case 1:
				all = append(all[:at:at], append([]string{other}, all[at:]...)...)
			case 2:
				if len(all) > 1 {
					all = append(all[:at:at], all[at+1:]...)
				}
			case 3:
				all = append(all[:at:at], append([]string{all[at]}, all[at:]...)...)
			case 4:
				i := c.below(len(all))
				all[at], all[i] = all[i], all[at]
			}
		}
		hold(t, r, c.put(all))
	}
}

// P10.1, P10.3: each statement up to each of its tokens, and one more of each kind.
func TestEachTokenBehindEach(t *testing.T) {
	r := readGrammar()
	more := strings.Fields("a 1 'x' x'00' @ 'a as asc distinct from group by having in is join limit not null offset on or select set table unique values where = - * ( ) , . ; ?")
	for _, text := range []string{
		"select distinct *, t.*, t.a as b, f(*), f(distinct a), f(a, b), f() from t as u, v join w on a = 1",
		"select a where not a in (1, ?) and - a is not null group by a, b having a like 'x' order by a desc, b asc limit 1 offset 2 ;",
		"select cast(a + b * c as int), (a or b), a not in (x'00')", "insert into t (a, b) values (1, null), (2, 3)", "insert into t select a from u", "update t set a = 1, b = b || c where a <= 2", "delete from t where a is null",
		"create table t (a not null unique, b unique, c)", "create unique index i on t (a desc, b asc, c)", "drop table t", "drop index i", "begin", "commit", "rollback",
	} {
		all := tokens(text)
		for i := range len(all) + 1 {
			ahead := strings.Join(all[:i], " ")
			hold(t, r, ahead)
			for k, other := range more {
				hold(t, r, ahead+" "+other)
				if (i+k)%6 == 0 {
					hold(t, r, ahead+" "+other+" "+strings.Join(all[i:], " "))
				}
			}
		}
	}
}

// P10.1, P10.3: all short rows of a few tokens.
func TestAllShortRows(t *testing.T) {
	r := readGrammar()
	for _, x := range []struct {
		ahead, few string
		most       int
	}{
		{"select", "a . * ( ) , as", 5},
		{"select a", "not in is null ( 1 ) =", 5},
		{"select", "- not a + * = and", 5},
		{"select f (", "distinct * a ) ,", 5},
		{"select a from t", ", join u on as where", 5},
		{"select a", "group by having a order desc ,", 6},
		{"select a", "limit 1 offset ,", 5},
		{"insert into t", "( a ) , values select", 6},
		{"update t", "set a = , where", 6},
		{"create", "table unique index i on (", 5},
		{"create table t ( a", "not null unique , ) b", 5},
		{"create index i on t", "( a , ) asc desc", 6},
		{"", "drop table index t begin ; delete from", 4},
		{"select cast (", "a as int text ) ,", 5},
	} {
		few := strings.Fields(x.few)
		var grow func(text string, more int)
		grow = func(text string, more int) {
			hold(t, r, text)
			if f := r.wrong(text); more == 0 || f.Err != api.OK && f.At < len(text) {
				return // what stands behind a fault is not asked
			}
			for _, token := range few {
				grow(text+" "+token, more-1)
			}
		}
		grow(x.ahead, x.most)
	}
}

// spoilt hands out a statement with each of its fields changed in some ways, one at a time.
func spoilt(s *api.Stmt, hand func()) {
	some := map[reflect.Type]any{
		reflect.TypeFor[api.Expr](): number(1), reflect.TypeFor[api.Item](): api.Item{Expr: a}, reflect.TypeFor[api.Source](): api.Source{Table: "u"}, reflect.TypeFor[api.Key](): api.Key{Expr: b}, reflect.TypeFor[api.Select](): api.Select{Items: items(c)},
		reflect.TypeFor[string](): "d", reflect.TypeFor[api.Col](): api.Col{Name: "e"}, reflect.TypeFor[api.KeyCol](): api.KeyCol{Name: "f"}, reflect.TypeFor[[]api.Expr](): list1(two),
	}
	var walk func(v reflect.Value)
	walk = func(v reflect.Value) {
		kept := reflect.New(v.Type()).Elem()
		kept.Set(v)
		try := func(x any) {
			v.Set(reflect.ValueOf(x).Convert(v.Type()))
			hand()
			v.Set(kept)
		}
		switch v.Kind() {
		case reflect.String:
			for _, x := range []string{"", "a", "zz", "A", "select", "1", " a", "a ", "+", "-", "not", "like", "int", "text", "a.b", "*"} {
				try(x)
			}
		case reflect.Int64, reflect.Int:
			for _, x := range []int64{-1, 0, 1, 2, 3, math.MaxInt64, math.MinInt64} {
				try(x)
			}
		case reflect.Uint8:
			for x := range 16 {
				try(x)
			}
		case reflect.Bool:
			try(!v.Bool())
		case reflect.Struct:
			for i := range v.NumField() {
				walk(v.Field(i))
			}
		case reflect.Slice:
			try(reflect.Zero(v.Type()).Interface())
			try(reflect.MakeSlice(v.Type(), 0, 3).Interface())
			full := v.Slice3(0, v.Len(), v.Len())
			try(reflect.Append(full, reflect.Zero(v.Type().Elem())).Interface())
			try(reflect.Append(full, reflect.ValueOf(some[v.Type().Elem()])).Interface())
			if n := v.Len(); n > 0 {
				try(v.Slice(1, n).Interface())
				try(v.Slice(0, n-1).Interface())
				try(reflect.Append(full, v.Index(n-1)).Interface())
			}
			for i := range kept.Len() {
				walk(kept.Index(i))
			}
		}
	}
	walk(reflect.ValueOf(s).Elem())
}

// P10.2, P10.3: a statement is right just if something is parsed to it: right ones, each with one field changed.
func TestRightIsWhatIsParsed(t *testing.T) {
	c := newChance(3)
	met := [2]int{}
	ask := func(s *api.Stmt) {
		said := (speller{}).stmt(*s)
		parsed, f := Parse(said)
		right := f.Err == api.OK && same(parsed, *s)
		if Right(*s) != right {
			t.Fatalf("right %v of %+v, which is said %q", !right, *s, short(said))
		}
		shown, err := Show(*s)
		if (err == api.OK) != right || err != api.OK && err != api.ErrTree || shown != map[bool]string{true: said}[right] {
			t.Fatalf("%q, error %d of %+v", short(shown), err, *s)
		}
		met[map[bool]int{true: 1}[right]]++
	}
	for range 110 {
		s := c.stmt()
		if parts, _ := partsAndDepth(reflect.ValueOf(s)); parts > 40 {
			continue
		}
		spoilt(&s, func() { ask(&s) })
	}
	if met[0] < 5000 || met[1] < 2500 {
		t.Errorf("met: %v", met)
	}
}

// P10.1 to P10.3: texts that nobody thought of.
func FuzzParse(f *testing.F) {
	for _, text := range []string{
		"select distinct *, t.*, - a as b from t, u as v join w on t.a = ? where not a in (1, 'x') group by b having count(*) > 1 order by a desc limit 1 offset 2;",
		"insert into t (a, b) values (1, null), (cast(x'00' as text), ?)", "update t set a = a || 'b' where a is not null -- end", "create unique index i on t (a asc, b desc)", "create table t (a not null unique)", "begin", "drop table t", "delete from t where a like '%'",
	} {
		f.Add(text)
	}
	r := readGrammar()
	f.Fuzz(func(t *testing.T, text string) {
		if len(text) <= 200 {
			hold(t, r, text)
		}
	})
}
