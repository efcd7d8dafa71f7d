package parse

import (
	"reflect"
	"slices"
	"strings"
	"testing"

	"cardindex/api"
)

// nested_test.go: P10.1, how many parts, how deep; how many rules are going on.

// P10.1: as deep as an expression may be, and one deeper: each way in which one stands in another.
func TestHowDeep(t *testing.T) {
	for text, make := range map[string]func(e api.Expr) api.Expr{
		"not (^)":         func(e api.Expr) api.Expr { return op("not", e) },
		"not ^":           func(e api.Expr) api.Expr { return op("not", e) },
		"- (^)":           func(e api.Expr) api.Expr { return op("-", e) },
		"-^":              func(e api.Expr) api.Expr { return op("-", e) },
		"^ + 1":           func(e api.Expr) api.Expr { return op("+", e, one) },
		"1 + (^)":         func(e api.Expr) api.Expr { return op("+", one, e) },
		"^ and 1":         func(e api.Expr) api.Expr { return op("and", e, one) },
		"(^) is null":     func(e api.Expr) api.Expr { return is(1, e) },
		"(^) in (1)":      func(e api.Expr) api.Expr { return in(0, e, one) },
		"1 not in (2, ^)": func(e api.Expr) api.Expr { return in(1, one, two, e) },
		"f(^)":            func(e api.Expr) api.Expr { return call("f", 0, e) },
		"f(1, ^)":         func(e api.Expr) api.Expr { return call("f", 0, one, e) },
		"f(distinct ^)":   func(e api.Expr) api.Expr { return call("f", 1, e) },
		"cast(^ as text)": func(e api.Expr) api.Expr { return cast(e, "text") },
		"(1 = (^))":       func(e api.Expr) api.Expr { return op("=", one, e) },
		"1 like (((^)))":  func(e api.Expr) api.Expr { return op("like", one, e) },
	} {
		ahead, behind, _ := strings.Cut(text, "^")
		spelt := func(deep int) string {
			sep := ""
			if text == "-^" {
				sep = " " // two of them were a remark
			}
			return strings.Repeat(ahead+sep, deep-1) + "a" + strings.Repeat(behind, deep-1)
		}
		for _, deep := range []int{1, 2, api.MaxNest - 1, api.MaxNest} {
			says(t, "select "+spelt(deep), tell(nested(a, deep-1, make)))
		}
		fails(t, "select "+spelt(api.MaxNest+1), api.ErrNested, 0)
		for _, statement := range []string{"select 1 from t where ^", "select 1 from t join u on ^", "select 1 group by 1, ^", "select 1 group by 1 having ^", "select 1 order by ^ desc", "select 1 limit ^", "select 1 limit 1 offset ^", "insert into t values (1), (1, ^)", "insert into t select ^", "update t set a = ^", "update t set a = 1 where ^", "delete from t where ^", "select f(1), ^ as b"} {
			fault := func(deep int) api.Fault {
				_, f := Parse(strings.Replace(statement, "^", spelt(deep), 1))
				return f
			}
			if f := fault(api.MaxNest); f != (api.Fault{}) {
				t.Errorf("%s of %s: fault %v", statement, text, f)
			}
			if f := fault(api.MaxNest + 1); f != (api.Fault{Err: api.ErrNested}) {
				t.Errorf("%s of %s: fault %v", statement, text, f)
			}
		}
	}
	// parentheses say nothing
	says(t, "select "+strings.Repeat("(", 249)+"a"+strings.Repeat(")", 249), tell(a))
}

// P10.1: as many parts as may be, and one more: what is counted, and that nothing else is.
func TestHowManyParts(t *testing.T) {
	list := func(n int, s string) string {
		return strings.Join(slices.Repeat([]string{s}, n), ", ")
	}
	for _, x := range []struct {
		text        string // with ^ for so many of what
		what        string
		each, other int // how many parts each is, and what else stands there
	}{
		{"select ^", "1", 2, 0}, {"select ^", "*", 2, 0}, {"select ^", "t.*", 2, 0}, {"select ^", "a.b as c", 2, 0}, {"select ^", "f(*)", 2, 0}, {"select distinct 1, ^;", "f()", 2, 2},
		{"select f(^)", "1", 1, 2}, {"select f(^)", "null", 1, 2}, {"select f(^)", "(('a'))", 1, 2}, {"select f(^)", "x''", 1, 2}, {"select f(^)", "?", 1, 2}, {"select f(^)", "a + 1", 3, 2}, {"select f(^)", "- 1", 2, 2}, {"select f(^)", "not a is null", 3, 2}, {"select f(^)", "a in (1, 2)", 4, 2}, {"select f(^)", "cast(a as int)", 2, 2}, {"select f(^)", "f(distinct a)", 2, 2},
		{"select f(^), f()", "1", 1, 4}, {"select 1 in (^)", "1", 1, 3}, {"select 1, f(^) as b", "1", 1, 4},
		{"select * from ^", "t", 1, 2}, {"select * from ^", "t as u", 1, 2}, {"select 1 from t, ^", "t", 1, 3}, {"select 1 from t join u on f(^)", "1", 1, 5},
		{"select * where f(^)", "1", 1, 3}, {"select * group by ^", "a", 1, 2}, {"select * group by 1 having f(^)", "1", 1, 4}, {"select * order by ^", "1", 2, 2}, {"select * order by ^", "1 desc", 2, 2}, {"select * limit f(^)", "1", 1, 3}, {"select * limit 1 offset f(^)", "1", 1, 4},
		{"insert into t values ^", "(1)", 2, 0}, {"insert into t values ^", "(1, 2, 3)", 4, 0}, {"insert into t values (^)", "1", 1, 1}, {"insert into t (^) values (1)", "a", 1, 2}, {"insert into t (a, b) select ^", "1", 2, 2}, {"insert into t (^) select *", "a", 1, 2},
		{"update t set ^", "a = 1", 2, 0}, {"update t set ^ where 1", "a = b", 2, 1}, {"update t set a = f(^)", "1", 1, 2}, {"update t set a = 1 where f(^)", "1", 1, 3}, {"delete from t where f(^)", "1", 1, 1},
		{"create table t (^)", "a", 1, 0}, {"create table t (^)", "a not null unique", 1, 0}, {"create index i on t (^)", "a", 1, 0}, {"create unique index i on t (^)", "a desc", 1, 0}, {"create table t (b, ^)", "a unique", 1, 1},
	} {
		most := (api.MaxParts - x.other) / x.each
		for n := most - 1; n <= most+2; n++ {
			text := strings.Replace(x.text, "^", list(n, x.what), 1)
			s, f := Parse(text)
			if n > most {
				fails(t, text, api.ErrNested, 0)
				continue
			}
			if parts, _ := partsAndDepth(reflect.ValueOf(s)); f != (api.Fault{}) || parts != n*x.each+x.other {
				t.Errorf("%s of %d %s: fault %v, %d parts", x.text, n, x.what, f, parts)
			}
		}
	}
	// joined ones, in another way: each source has its expression
	for n, err := range map[int]api.Errno{998: api.OK, 999: api.ErrNested} {
		if _, f := Parse("select 1 from t" + strings.Repeat(" join t on 1", n)); f != (api.Fault{Err: err}) {
			t.Errorf("%d joins: fault %v", n, f)
		}
	}
}

// P10.1: 500 of the rules not and unary at once, and where the next one begins.
func TestHowManyAreGoingOn(t *testing.T) {
	for _, x := range []struct {
		step, behind string
		may          int // how often at most
	}{
		{"(", ")", 249},            // not and unary
		{"f(", ")", 249},           // not and unary
		{"f(distinct ", ")", 249},  // not and unary
		{"cast(", " as int)", 249}, // not and unary
		{"1 + (", ")", 249},        // not and unary: that of 1 is over
		{"1 and (", ")", 249},      // not and unary: those of 1 are over
		{"not ", "", 498},          // not; then one not and one unary
		{"- ", "", 498},            // unary; one not ahead, then one unary
		{"1 in (", ")", 498},       // not: the unary of 1 is over
		{"1 in (2, ", ")", 498},    // not
		{"not (", ")", 166},        // two nots and a unary
		{"- (", ")", 166},          // a not and two unaries
		{"not not - - (", ")", 83}, // three nots and three unaries
		{"not 1 in (", ")", 249},   // two nots
		{"not f(1, (", "))", 99},   // three nots, two unaries
		{"(((((((((((((((((((((((((", ")))))))))))))))))))))))))", 9}, // 25 of each
	} {
		spelt := func(n int) string {
			return "select " + strings.Repeat(x.step, n) + "a" + strings.Repeat(x.behind, n)
		}
		// where it may, the fault is at most that it is too deep
		if _, f := Parse(spelt(x.may)); f.At != 0 || f.Err != api.OK && f.Err != api.ErrNested {
			t.Errorf("%d of %q: fault %v", x.may, x.step, f)
		}
		if _, f := Parse(spelt(x.may + 1)); f.Err != api.ErrNested || f.At <= len("select ") {
			t.Errorf("%d of %q: fault %v", x.may+1, x.step, f)
		}
	}
	says(t, "select "+strings.Repeat("(", 249)+"?"+strings.Repeat(")", 249), tell(bind(0)))
	fails(t, "select "+strings.Repeat("(", 250)+"?"+strings.Repeat(")", 250), api.ErrNested, 7+250)
	fails(t, "select "+strings.Repeat("(", 300)+"?"+strings.Repeat(")", 300), api.ErrNested, 7+250)
	fails(t, "select "+strings.Repeat("(", api.MaxText-7), api.ErrNested, 7+250)
	fails(t, "select "+strings.Repeat("not ", 499)+"a", api.ErrNested, 7+4*499)
	fails(t, "select "+strings.Repeat("not ", 600)+"a", api.ErrNested, 7+4*500)
	fails(t, "select "+strings.Repeat("- ", 498)+"a", api.ErrNested, 0)
	fails(t, "select "+strings.Repeat("- ", 499)+"a", api.ErrNested, 7+2*499)
	fails(t, "select "+strings.Repeat("- ", 600)+"a", api.ErrNested, 7+2*499)
	fails(t, "select "+strings.Repeat("1 in (", 500)+"a", api.ErrNested, 7+6*499)
	// none is going on any more behind its end
	says(t, "select "+strings.Repeat("(", 249)+"a"+strings.Repeat(")", 249)+", "+strings.Repeat("(", 249)+"b"+strings.Repeat(")", 249), tell(a, b))
	says(t, "select f("+strings.Repeat("(1), -1, not 1, 1 in (1), ", 150)+"2)", tell(call("f", 0, append(slices.Repeat([]api.Expr{one, op("-", one), op("not", one), in(0, one, one)}, 150), two)...)))
}

// P10.1: of a token that may not stand, one that is none, and one rule too many, the first that is met.
func TestWhatIsMetFirst(t *testing.T) {
	open := func(n int) string { return "select " + strings.Repeat("(", n) }
	fails(t, open(249)+")", api.ErrSyntax, 7+249)
	fails(t, open(249), api.ErrSyntax, 7+249)
	fails(t, open(249)+"@", api.ErrToken, 7+249)
	fails(t, open(250)+"@", api.ErrToken, 7+250)
	fails(t, open(250)+"a @", api.ErrNested, 7+250)
	fails(t, open(250)+"a b", api.ErrNested, 7+250)
	fails(t, open(249)+"a b"+strings.Repeat(")", 300), api.ErrSyntax, 7+249+2)
	fails(t, "select 1 2, "+strings.Repeat("(", 300), api.ErrSyntax, 9)
	fails(t, "select 1 + 'a, "+strings.Repeat("(", 300), api.ErrToken, 11)
	deep := strings.Repeat("not ", 100) + "a"
	fails(t, "select "+deep, api.ErrNested, 0)
	fails(t, "select "+deep+" b", api.ErrSyntax, len("select "+deep+" "))
	fails(t, "select "+deep+" @", api.ErrToken, len("select "+deep+" "))
	fails(t, "select "+deep+";;", api.ErrSyntax, len("select "+deep+";"))
	fails(t, "select f("+strings.Repeat("1, ", 3000)+")", api.ErrSyntax, 9+3*3000)
	fails(t, "select "+deep+", "+open(300)[7:], api.ErrNested, len("select "+deep+", ")+250)
}

// chain is a text that is made step by step, with how many rules not and unary are going on there, by the steps alone.
type chain struct {
	text, ends string
	count      int
	inUnary    bool // does a unary go on that is no more than begun?
	tooMany    int  // where one rule too many began; below 0: nowhere
}

func (n *chain) begin(inUnary bool) {
	if n.count == 500 && n.tooMany < 0 {
		n.tooMany = len(n.text)
	}
	n.count++
	n.inUnary = inUnary
}

// unary begins one, unless one is no more than begun.
func (n *chain) unary() {
	if !n.inUnary {
		n.begin(true)
	}
}

func (n *chain) put(step, end string) {
	n.text += step
	n.ends = end + n.ends
}

// more puts a step, if it may stand there.
func (n *chain) more(step string) {
	if strings.ContainsAny(step, "123") && n.count > 490 && n.tooMany < 0 {
		return // that number has rules of its own, of which one may be too many
	}
	switch step {
	case "not ":
		if !n.inUnary {
			n.put(step, "")
			n.begin(false)
		}
	case "1 in (", "2 not in (3, not 3, ":
		if !n.inUnary {
			n.put(step, ")")
			n.begin(false)
		}
	case "1 + ", "1 = ":
		if !n.inUnary {
			n.put(step, "")
			n.unary()
		}
	case "- ":
		n.unary()
		n.put(step, "")
		n.begin(true)
	case "cast(":
		n.unary()
		n.put(step, " as int)")
		n.begin(false)
	default:
		n.unary()
		n.put(step, ")")
		n.begin(false)
	}
}

// P10.1: chains of all steps by chance.
func TestChainsOfRules(t *testing.T) {
	c := newChance(10)
	met := map[bool]int{}
	for range 400 {
		n := &chain{text: "select ", tooMany: -1}
		n.begin(false)
		for range 50 + c.below(500) {
			n.more(of(c, "not ", "- ", "(", "f(", "f(1, ", "cast(", "1 in (", "1 + ", "1 = ", "2 not in (3, not 3, "))
		}
		n.unary()
		_, f := Parse(n.text + "a" + n.ends)
		met[n.tooMany >= 0]++
		switch {
		case n.tooMany >= 0 && f != (api.Fault{Err: api.ErrNested, At: n.tooMany}),
			n.tooMany < 0 && f != (api.Fault{}) && f != (api.Fault{Err: api.ErrNested}):
			t.Fatalf("%s: fault %v, not at %d", n.text, f, n.tooMany)
		}
	}
	if met[true] < 50 || met[false] < 50 {
		t.Errorf("met: %v", met)
	}
}
