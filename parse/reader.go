package parse

import (
	"slices"

	"cardindex/api"
	"cardindex/words"
)

// mostGoing is how many of the rules not and unary may be going on at once: by them alone a rule comes to stand within itself.
const mostGoing = 500

// reader reads a statement rule by rule, its tokens one ahead.
type reader struct {
	text      string
	word      api.Word        // the token that no rule took yet
	fault     api.Fault       // the first one
	binds     int64           // how many there were so far
	going     int             // how many rules not and unary are going on
	sum, expr func() api.Expr // these rules
}

// begin is a reader that has read the first token.
func begin(text string) *reader {
	r := &reader{text: text}
	product := r.two(r.unary, "*", "/", "%")
	r.sum = r.two(product, "+", "-", "||")
	and := r.two(r.not, "and")
	r.expr = r.two(and, "or")
	r.read()
	return r
}

// read tells the token that stands there and reads the next one.
func (r *reader) read() api.Word {
	taken := r.word
	next, fault := words.Next(r.text, taken.End)
	r.word = next
	if fault.Err != api.OK {
		r.fail(fault)
	}
	return taken
}

// fail keeps the first fault. Behind it there stands a token of no kind, which no rule takes, so that all rules come to their ends.
func (r *reader) fail(fault api.Fault) {
	if r.fault.Err == api.OK {
		r.fault = fault
	}
	r.word = api.Word{}
}

// refuse says that the token that stands there may not.
func (r *reader) refuse() {
	r.fail(api.Fault{Err: api.ErrSyntax, At: r.word.At})
}

// sign takes the token that stands there and tells it, if it is one of these signs and keys; "", if not.
func (r *reader) sign(signs ...string) string {
	if r.word.Kind != api.WSign && r.word.Kind != api.WKey || !slices.Contains(signs, r.word.S) {
		return ""
	}
	return r.read().S
}

// has takes the token that stands there, if it is one of these.
func (r *reader) has(signs ...string) bool {
	return r.sign(signs...) != ""
}

// must takes all of these, one behind the other.
func (r *reader) must(signs ...string) {
	for _, sign := range signs {
		if !r.has(sign) {
			r.refuse()
		}
	}
}

// name takes a name.
func (r *reader) name() string {
	if r.word.Kind != api.WName {
		r.refuse()
		return ""
	}
	return r.read().S
}

// ahead: do these stand behind the token that stands there? They are not taken, and what is wrong with them is told when they are.
func (r *reader) ahead(signs ...string) bool {
	at := r.word.End
	for _, sign := range signs {
		next, _ := words.Next(r.text, at)
		if next.Kind != api.WSign || next.S != sign {
			return false
		}
		at = next.End
	}
	return true
}

// list reads what a rule tells, once or more, with a comma between two.
func list[T any](r *reader, rule func() T) []T {
	told := []T{rule()}
	for r.has(",") {
		told = append(told, rule())
	}
	return told
}

// enclosed reads such a list in parentheses.
func enclosed[T any](r *reader, rule func() T) []T {
	r.must("(")
	told := list(r, rule)
	r.must(")")
	return told
}

// within is what a rule tells that is going on until then.
func (r *reader) within(rule func() api.Expr) api.Expr {
	if r.going == mostGoing {
		r.fail(api.Fault{Err: api.ErrNested, At: r.word.At})
		return api.Expr{}
	}
	r.going++
	told := rule()
	r.going--
	return told
}
