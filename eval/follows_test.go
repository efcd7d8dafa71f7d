package eval

import (
	"math"
	"slices"
	"testing"

	"cardindex/api"
	"cardindex/value"
)

// follows_test.go: P13.3, what follows; Eval held against its twin, for expressions by chance.

// twin says the chapter's words in another way: parts are put on a pile, and stay there for what comes behind their kids.
func twin(e api.Expr, x api.Env) (api.Value, api.Errno) {
	type part struct {
		e      api.Expr
		behind bool // its kids?
	}
	pile := []part{{e: e}}
	var values []api.Value
	for len(pile) > 0 {
		p := pile[len(pile)-1]
		pile = pile[:len(pile)-1]
		switch {
		case p.behind:
			kids := values[len(values)-len(p.e.Kids):]
			v, err := twinOf(p.e, kids, x)
			if err != api.OK {
				return null, err
			}
			values = append(values[:len(values)-len(kids)], v)
		case isNone(p.e):
			return null, api.ErrExpr
		default:
			pile = append(pile, part{p.e, true})
			for _, kid := range slices.Backward(p.e.Kids) {
				pile = append(pile, part{e: kid})
			}
		}
	}
	return values[0], api.OK
}

// isNone: has e a kind that is none, or not what that has?
func isNone(e api.Expr) bool {
	many := map[api.ExprKind][2]int{api.EOp: {1, 2}, api.EIs: {1, 1}, api.EIn: {2, math.MaxInt}, api.ECast: {1, 1}, api.ENull: {}, api.EInt: {}, api.EText: {}, api.EBlob: {}, api.EBind: {}, api.EKey: {}, api.ETotal: {}, api.EThis: {}, api.ECall: {}}
	m, known := many[e.Kind]
	return !known || m[1] > 0 && (len(e.Kids) < m[0] || len(e.Kids) > m[1]) ||
		(e.Kind == api.EText || e.Kind == api.EBlob) && len(e.S) > 65536 ||
		(e.Kind == api.EIs || e.Kind == api.EIn) && e.N != 0 && e.N != 1
}

// twinOf is what e is of its kids' values.
func twinOf(e api.Expr, kids []api.Value, x api.Env) (api.Value, api.Errno) {
	find := func(l []api.Value) (api.Value, api.Errno) {
		for n, v := range l {
			if int64(n) == e.N {
				return v, api.OK
			}
		}
		return null, api.OK
	}
	switch e.Kind {
	case api.EInt:
		return num(e.N), api.OK
	case api.EText:
		return text(e.S), api.OK
	case api.EBlob:
		return blob(e.S), api.OK
	case api.EBind:
		return find(x.Binds)
	case api.EKey:
		return find(x.Keys)
	case api.ETotal:
		return find(x.Totals)
	case api.EThis:
		for a, row := range x.Rows {
			if a == e.A {
				return find(row)
			}
		}
	case api.EOp:
		if len(kids) == 2 {
			return value.Op(e.S, kids[0], kids[1])
		}
		return value.One(e.S, kids[0])
	case api.EIs:
		return num(map[bool]int64{true: e.N, false: 1 - e.N}[kids[0].Kind == api.VNull]), api.OK
	case api.EIn:
		return twinIn(e.N, kids)
	case api.ECall:
		return value.Call(e.S, kids)
	case api.ECast:
		return value.Cast(e.S, kids[0])
	}
	return null, api.OK
}

// twinIn counts how often the first value is one of the others, and how often that is not known.
func twinIn(not int64, kids []api.Value) (api.Value, api.Errno) {
	met := map[api.Value]int{}
	for _, v := range kids[1:] {
		told, err := value.Op("=", kids[0], v)
		if err != api.OK {
			return null, err
		}
		met[told]++
	}
	switch {
	case met[num(1)] > 0:
		return num(1 - not), api.OK
	case met[null] > 0:
		return null, api.OK
	}
	return num(not), api.OK
}

// maker makes expressions, and what they are computed of.
type maker struct {
	*chance
	wrong bool // may something be wrong?
	safe  bool // is much of it safe?
}

// strange: should something be wrong here?
func (m *maker) strange(of int) bool { return m.wrong && m.one(of) }

func (m *maker) n() int64 {
	if m.one(12) {
		return oneOf[int64](m.chance, -1, 3, 7, math.MinInt64, math.MaxInt64, 1<<32)
	}
	return int64(m.below(3))
}

func (m *maker) leaf() api.Expr {
	switch m.below(9) {
	case 0:
		return nothing()
	case 1:
		return lit(oneOf[int64](m.chance, 0, 1, 2, -5, math.MaxInt64, math.MinInt64))
	case 2:
		return litText(m.bytes())
	case 3:
		return litBlob(m.bytes())
	case 4:
		return bind(m.n())
	case 5:
		return key(m.n())
	case 6:
		return total(m.n())
	}
	return this(int(m.n()), m.n())
}

func (m *maker) bytes() string {
	if m.strange(30) {
		return xs(api.MaxValue + 1)
	}
	return oneOf(m.chance, "", "1", "a", " 2b", "A%", "-3", xs(api.MaxValue))
}

func (m *maker) expr(deep int) api.Expr {
	e := m.leaf()
	if deep > 0 && !m.one(5) {
		e = m.node(deep)
	}
	switch {
	case m.strange(60):
		e.Kind = api.ExprKind(m.below(20))
	case m.strange(60):
		e.Kids = append(e.Kids, m.expr(max(0, deep-1)))
	case m.strange(60) && len(e.Kids) > 0:
		e.Kids = e.Kids[1:]
	case m.strange(60):
		e.N = m.n()
	case m.strange(60):
		e.S = oneOf(m.chance, "not", "+", "length", "none", "int", "")
	}
	return e
}

func (m *maker) node(deep int) api.Expr {
	kids := func(n int) []api.Expr {
		var l []api.Expr
		for range n {
			l = append(l, m.expr(deep-1))
		}
		return l
	}
	switch {
	case !m.safe && m.one(2):
		switch m.below(4) {
		case 0:
			return op("-", kids(1)...)
		case 1:
			return cast(oneOf(m.chance, "int", "text"), kids(1)...)
		case 2:
			return call(oneOf(m.chance, "length", "upper", "abs", "hex"), kids(1)...)
		}
		return op(oneOf(m.chance, "+", "-", "*", "/", "%", "||", "like"), kids(2)...)
	case m.one(4):
		return is(int64(m.below(2)), kids(1)...)
	case m.one(4):
		return in(int64(m.below(2)), kids(2+m.below(3))...)
	case m.one(4):
		return op("not", kids(1)...)
	case m.one(4):
		return call("typeof", kids(1)...)
	case m.one(4):
		return call("ifnull", kids(2)...)
	case m.one(4):
		return call("coalesce", kids(2+m.below(3))...)
	}
	return op(oneOf(m.chance, "=", "<>", "<", "<=", ">", ">=", "and", "or"), kids(2)...)
}

func (m *maker) values() []api.Value {
	var l []api.Value
	for range m.below(4) {
		switch {
		case m.strange(15):
			l = append(l, oneOf(m.chance, wrongValues()...))
		case m.one(3):
			l = append(l, oneOf(m.chance, num(-2), num(1), num(3), text("b"), blob("4")))
		default:
			l = append(l, oneOf(m.chance, rightValues()...))
		}
	}
	return l
}

func (m *maker) env() api.Env {
	x := api.Env{Keys: m.values(), Totals: m.values(), Binds: m.values()}
	for range m.below(4) {
		x.Rows = append(x.Rows, m.values())
	}
	return x
}

// P13.1: expressions by chance, with things wrong among them, are what their twin says.
func TestExpressionsByChance(t *testing.T) {
	met := map[api.Errno]int{}
	for n := range 30000 {
		m := &maker{chance: newChance(uint64(n)), wrong: n%2 > 0, safe: n%16 == 0}
		e, x := m.expr(1+n%5), m.env()
		met[hold(t, e, x)]++
	}
	for _, err := range []api.Errno{api.ErrExpr, api.ErrArg, api.ErrFunc, api.ErrOver, api.ErrLong} {
		if met[err] < 100 {
			t.Errorf("error %d was met %d times", err, met[err])
		}
	}
	if met[api.OK] < 15000 {
		t.Errorf("met: %v", met)
	}
}

// hold asks whether an expression is what its twin says.
func hold(t *testing.T, e api.Expr, x api.Env) api.Errno {
	t.Helper()
	want, wantErr := twin(e, x)
	if v, err := Eval(e, x); v != want || err != wantErr {
		t.Fatalf("%s: %s, error %d, not %s, error %d", spell(e), short(v), err, short(want), wantErr)
	}
	truth, known := value.Truth(want)
	if yes, err := True(e, x); yes != (truth && known) || err != wantErr {
		t.Fatalf("%s is true: %v, error %d", spell(e), yes, err)
	}
	return wantErr
}

// P13.3: what is safe has no error, of whatever right values; its own value is right, too.
func TestSafeHasNoError(t *testing.T) {
	safe, refused := 0, 0
	for n := range 30000 {
		m := &maker{chance: newChance(uint64(n)), wrong: n%4 == 0, safe: n%2 > 0}
		e := m.expr(1 + n%5)
		if !Safe(e) {
			refused++
			continue
		}
		safe++
		m.wrong = false
		for range 3 {
			x := m.env()
			if v, err := Eval(e, x); err != api.OK || !value.Right(v) {
				t.Fatalf("%s is safe: %s, error %d", spell(e), short(v), err)
			}
			if _, err := True(e, x); err != api.OK {
				t.Fatalf("%s is safe: error %d", spell(e), err)
			}
		}
	}
	if safe < 10000 || refused < 3000 {
		t.Errorf("%d are safe, %d not", safe, refused)
	}
}

// P13.3: that holds of each safe part, of all pairs of right values.
func TestSafePartsHaveNoError(t *testing.T) {
	var parts []api.Expr
	for _, sign := range []string{"=", "<>", "<", "<=", ">", ">=", "and", "or"} {
		parts = append(parts, op(sign, bind(0), bind(1)))
	}
	parts = append(parts, op("not", bind(0)), is(0, bind(0)), is(1, bind(0)), in(0, bind(0), bind(1)), in(1, bind(1), bind(0), bind(1)), call("typeof", bind(0)), call("ifnull", bind(0), bind(1)), call("coalesce", bind(0), bind(1), bind(0)), bind(0))
	for _, e := range parts {
		if !Safe(e) {
			t.Errorf("%s is not safe", spell(e))
		}
		for _, a := range rightValues() {
			for _, b := range rightValues() {
				if _, err := Eval(e, api.Env{Binds: list(a, b)}); err != api.OK {
					t.Errorf("%s of %s, %s: error %d", spell(e), short(a), short(b), err)
				}
			}
		}
	}
}

// P13.3: a value hangs on the rows of Sources alone: whatever the others are, or that they are not there.
func TestValuesHangOnSources(t *testing.T) {
	others := 0
	for n := range 20000 {
		m := &maker{chance: newChance(uint64(n)), wrong: n%3 == 0, safe: n%2 > 0}
		e, x := m.expr(1+n%4), m.env()
		v, err := Eval(e, x)
		told := Sources(e)
		if !slices.IsSorted(told) || len(slices.Compact(slices.Clone(told))) != len(told) {
			t.Fatalf("%s: %v do not rise", spell(e), told)
		}
		other := x
		other.Rows = nil
		for a := range 3 { // as many as there may be at most
			switch {
			case slices.Contains(told, a) && a < len(x.Rows):
				other.Rows = append(other.Rows, x.Rows[a])
			case slices.Contains(told, a):
				other.Rows = append(other.Rows, nil)
			default:
				other.Rows = append(other.Rows, append(wrongValues()[m.below(5):], rightValues()...))
				others++
			}
		}
		if got, gotErr := Eval(e, other); got != v || gotErr != err {
			t.Fatalf("%s, sources %v: %s, error %d, not %s, error %d", spell(e), told, short(got), gotErr, short(v), err)
		}
	}
	if others < 10000 {
		t.Errorf("%d other rows alone", others)
	}
}

// P13.1, P13.3: texts that nobody thought of.
func FuzzEval(f *testing.F) {
	for _, text := range []string{"a + b * c, -?", "a in (b, null, 1), 'x' not in (c)", "not (a is null) and b like '%x_' or ? <> x'00'", "coalesce(a, ifnull(b, c), typeof(a)), substr(c, -2, ?)", "cast(hex(c) as int) % 7 || abs(a)"} {
		f.Add(text, int64(4), "ab", []byte("\x00b"))
	}
	f.Fuzz(func(t *testing.T, said string, n int64, s string, b []byte) {
		all, _ := resolved(said)
		for _, e := range all {
			for _, x := range []api.Env{{Rows: [][]api.Value{list(num(n), text(s)), list(blob(string(b)))}, Binds: list(null, num(n))}, {Rows: [][]api.Value{list(text(s)), nil}, Binds: list(blob(s))}, {}} {
				if len(s) <= api.MaxValue && len(b) <= api.MaxValue && hold(t, e, x) != api.OK && Safe(e) {
					t.Fatalf("%s is safe", spell(e))
				}
			}
		}
	})
}
