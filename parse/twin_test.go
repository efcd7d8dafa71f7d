package parse

import (
	"encoding/hex"
	"reflect"
	"strconv"
	"strings"

	"cardindex/api"
	"cardindex/words"
)

// twin_test.go: what the chapter says, said in another way: which token may not stand (by the grammar as it is written), how a statement is spelt, how many parts it has.

// grammar is the chapter's table. Between blanks: { } any number of times, [ ] perhaps, | or; a name that has a line of its own is that rule, all else is a token.
const grammar = `
whole = stmt [ ; ] END
stmt = query | insert into NAME [ names ] values row { , row } | insert into NAME [ names ] query | update NAME set NAME = expr { , NAME = expr } [ where expr ] | delete from NAME [ where expr ] | create table NAME ( col { , col } ) | create [ unique ] index NAME on NAME ( keycol { , keycol } ) | drop table NAME | drop index NAME | begin | commit | rollback
names = ( NAME { , NAME } )
row = ( expr { , expr } )
col = NAME [ not null ] [ unique ]
keycol = NAME [ asc | desc ]
query = select [ distinct ] item { , item } [ from source { , source | join source on expr } ] [ where expr ] [ group by expr { , expr } [ having expr ] ] [ order by key { , key } ] [ limit expr [ offset expr ] ]
item = * | NAME . * | expr [ as NAME ]
source = NAME [ as NAME ]
key = expr [ asc | desc ]
expr = and_ { or and_ }
and_ = not_ { and not_ }
not_ = not not_ | compare
compare = sum | sum = sum | sum <> sum | sum < sum | sum <= sum | sum > sum | sum >= sum | sum like sum | sum is [ not ] null | sum [ not ] in ( expr { , expr } )
sum = product { + product | - product | || product }
product = unary { * unary | / unary | % unary }
unary = - unary | primary
primary = INT | TEXT | BLOB | null | ? | NAME [ . NAME ] | NAME ( ) | NAME ( * ) | NAME ( distinct expr ) | NAME ( expr { , expr } ) | cast ( expr as int ) | cast ( expr as text ) | ( expr )
`

// rules is the grammar: of each rule the rows of which it is one.
type rules map[string][][]string

// read puts a line's words into rules, up to the word that ends them, and tells how many words that were. What stands in { } or [ ] becomes a rule of its own.
func (r rules) read(rule string, line []string) int {
	row := []string{}
	for i := 0; i < len(line); i++ {
		switch w := line[i]; w {
		case "]", "}":
			r[rule] = append(r[rule], row)
			return i
		case "|":
			r[rule] = append(r[rule], row)
			row = []string{}
		case "[", "{":
			inner := w + strconv.Itoa(len(r))
			r[inner] = [][]string{{}}
			i += 1 + r.read(inner, line[i+1:])
			if w == "{" {
				for k, again := range r[inner][1:] {
					r[inner][k+1] = append([]string{inner}, again...)
				}
			}
			row = append(row, inner)
		default:
			row = append(row, w)
		}
	}
	r[rule] = append(r[rule], row)
	return len(line)
}

func readGrammar() rules {
	r := rules{}
	for _, line := range strings.Split(strings.TrimSpace(grammar), "\n") {
		all := strings.Fields(line)
		r.read(all[0], all[2:])
	}
	return r
}

// dotted is a row of a rule of which at tokens and rules stand already, from the token begun on.
type dotted struct {
	rule           string
	row, at, begun int
}

// firstWrong is which token is the first one that may not stand where it does, by trying all rows of all rules side by side; below 0, if each may.
func (r rules) firstWrong(tokens []string) int {
	states := []map[dotted]bool{{{rule: "whole"}: true}}
	r.grow(states)
	for i, token := range tokens {
		next := map[dotted]bool{}
		for d := range states[i] {
			row := r[d.rule][d.row]
			if d.at < len(row) && r[row[d.at]] == nil && row[d.at] == token {
				d.at++
				next[d] = true
			}
		}
		if len(next) == 0 {
			return i
		}
		states = append(states, next)
		r.grow(states)
	}
	return -1
}

// grow adds to the last of the states what goes with it.
func (r rules) grow(states []map[dotted]bool) {
	now := len(states) - 1
	var work []dotted
	for d := range states[now] {
		work = append(work, d)
	}
	add := func(d dotted) {
		if !states[now][d] {
			states[now][d] = true
			work = append(work, d)
		}
	}
	for len(work) > 0 {
		d := work[0]
		work = work[1:]
		row := r[d.rule][d.row]
		if d.at < len(row) {
			for k, begun := range r[row[d.at]] {
				add(dotted{rule: row[d.at], row: k, begun: now})
				if len(begun) == 0 {
					add(dotted{d.rule, d.row, d.at + 1, d.begun})
				}
			}
			continue
		}
		for up := range states[d.begun] {
			if above := r[up.rule][up.row]; up.at < len(above) && above[up.at] == d.rule {
				add(dotted{up.rule, up.row, up.at + 1, up.begun})
			}
		}
	}
}

// tokenOf is a word as it stands in the grammar.
func tokenOf(w api.Word) string {
	switch w.Kind {
	case api.WInt:
		return "INT"
	case api.WName:
		return "NAME"
	case api.WText:
		return "TEXT"
	case api.WBlob:
		return "BLOB"
	case api.WEnd:
		return "END"
	}
	return w.S
}

// wrong is what is wrong with a text, but for how much and how deep it is.
func (r rules) wrong(text string) api.Fault {
	var tokens []string
	var places []int
	at := 0
	var fault api.Fault
	for fault.Err == api.OK && (len(tokens) == 0 || tokens[len(tokens)-1] != "END") {
		var w api.Word
		if w, fault = words.Next(text, at); fault.Err == api.OK {
			tokens, places, at = append(tokens, tokenOf(w)), append(places, w.At), w.End
		}
	}
	if i := r.firstWrong(tokens); i >= 0 {
		return api.Fault{Err: api.ErrSyntax, At: places[i]}
	}
	return fault
}

// speller spells statements, by putting texts together: as they are shown, or, with a chance, with parentheses only where they must be, and some that say nothing.
type speller struct {
	chance *chance
}

// How close a rule binds.
const (
	orLevel = 1 + iota
	andLevel
	notLevel
	compareLevel
	sumLevel
	productLevel
	unaryLevel
	primaryLevel
)

func level(e api.Expr) int {
	switch {
	case e.Kind == api.EIs || e.Kind == api.EIn:
		return compareLevel
	case e.Kind != api.EOp:
		return primaryLevel
	case len(e.Kids) == 1 && e.S == "not":
		return notLevel
	case len(e.Kids) == 1:
		return unaryLevel
	}
	switch e.S {
	case "or":
		return orLevel
	case "and":
		return andLevel
	case "+", "-", "||":
		return sumLevel
	case "*", "/", "%":
		return productLevel
	}
	return compareLevel
}

// kid spells what stands where a rule of that level must.
func (p speller) kid(e api.Expr, least int) string {
	s := p.expr(e)
	if p.chance == nil && level(e) < primaryLevel || p.chance != nil && (level(e) < least || p.chance.below(6) == 0) {
		return "(" + s + ")"
	}
	return s
}

func (p speller) exprs(all []api.Expr) string {
	var told []string
	for _, e := range all {
		told = append(told, p.expr(e))
	}
	return strings.Join(told, ", ")
}

func (p speller) expr(e api.Expr) string {
	if p.chance != nil && p.chance.below(20) == 0 && e.Kind != api.EStar {
		return "(" + speller{p.chance}.expr(e) + ")"
	}
	switch e.Kind {
	case api.ENull:
		return "null"
	case api.EInt:
		return strconv.FormatInt(e.N, 10)
	case api.EText:
		return "'" + strings.ReplaceAll(e.S, "'", "''") + "'"
	case api.EBlob:
		return "x'" + hex.EncodeToString([]byte(e.S)) + "'"
	case api.EBind:
		return "?"
	case api.EName:
		return joined(e.T, e.S)
	case api.EStar:
		return joined(e.T, "*")
	case api.ECall:
		return e.S + "(" + map[int64]string{1: "distinct ", 2: "*"}[e.N] + p.exprs(e.Kids) + ")"
	}
	if len(e.Kids) == 0 {
		return "none"
	}
	first, others := e.Kids[0], e.Kids[1:]
	switch {
	case e.Kind == api.ECast:
		return "cast(" + p.expr(first) + " as " + e.S + ")"
	case e.Kind == api.EIs:
		return p.kid(first, sumLevel) + map[int64]string{0: " is not null", 1: " is null"}[e.N]
	case e.Kind == api.EIn:
		return p.kid(first, sumLevel) + map[int64]string{0: " in (", 1: " not in ("}[e.N] + p.exprs(others) + ")"
	case len(others) == 0:
		return e.S + " " + p.kid(first, level(e))
	case level(e) == compareLevel:
		return p.kid(first, sumLevel) + " " + e.S + " " + p.kid(others[0], sumLevel)
	}
	return p.kid(first, level(e)) + " " + e.S + " " + p.kid(others[0], level(e)+1)
}

func joined(table, name string) string {
	if table == "" {
		return name
	}
	return table + "." + name
}

// under spells a list of expressions behind its keys, or nothing.
func (p speller) under(keys string, all []api.Expr) string {
	if len(all) == 0 {
		return ""
	}
	return " " + keys + " " + p.exprs(all)
}

func called(as string) string {
	if as == "" {
		return ""
	}
	return " as " + as
}

func (p speller) falls(desc bool) string {
	if desc {
		return " desc"
	}
	if p.chance != nil && p.chance.is() {
		return " asc"
	}
	return ""
}

func (p speller) query(q api.Select) string {
	s := "select "
	if q.Distinct {
		s += "distinct "
	}
	var all []string
	for _, i := range q.Items {
		all = append(all, p.expr(i.Expr)+called(i.As))
	}
	s += strings.Join(all, ", ")
	for i, f := range q.From {
		ahead := ", "
		if i == 0 {
			ahead = " from "
		} else if len(f.On) > 0 {
			ahead = " join "
		}
		s += ahead + f.Table + called(f.As) + p.under("on", f.On)
	}
	s += p.under("where", q.Where) + p.under("group by", q.Group) + p.under("having", q.Having)
	all = nil
	for _, k := range q.Order {
		all = append(all, p.expr(k.Expr)+p.falls(k.Desc))
	}
	if len(all) > 0 {
		s += " order by " + strings.Join(all, ", ")
	}
	return s + p.under("limit", q.Limit) + p.under("offset", q.Offset)
}

func (p speller) queries(all []api.Select) string {
	s := ""
	for _, q := range all {
		s += p.query(q)
	}
	return s
}

// stmt spells any statement: of one that is not right, something.
func (p speller) stmt(s api.Stmt) string {
	var all []string
	switch s.Kind {
	case api.SSelect:
		return p.queries(s.Query)
	case api.SInsert:
		told := "insert into " + s.Table
		if len(s.Names) > 0 {
			told += " (" + strings.Join(s.Names, ", ") + ")"
		}
		if len(s.Rows) == 0 {
			return told + " " + p.queries(s.Query)
		}
		for _, row := range s.Rows {
			all = append(all, "("+p.exprs(row)+")")
		}
		return told + " values " + strings.Join(all, ", ")
	case api.SUpdate:
		for i := range min(len(s.Names), len(s.Exprs)) {
			all = append(all, s.Names[i]+" = "+p.expr(s.Exprs[i]))
		}
		return "update " + s.Table + " set " + strings.Join(all, ", ") + p.under("where", s.Where)
	case api.SDelete:
		return "delete from " + s.Table + p.under("where", s.Where)
	case api.STable:
		for _, c := range s.Cols {
			all = append(all, c.Name+map[bool]string{true: " not null"}[c.NotNull]+map[bool]string{true: " unique"}[c.Unique])
		}
		return "create table " + s.Table + " (" + strings.Join(all, ", ") + ")"
	case api.SIndex:
		for _, k := range s.Keys {
			all = append(all, k.Name+p.falls(k.Desc))
		}
		return "create " + map[bool]string{true: "unique "}[s.Unique] + "index " + s.Name + " on " + s.Table + " (" + strings.Join(all, ", ") + ")"
	case api.SDropT:
		return "drop table " + s.Table
	case api.SDropI:
		return "drop index " + s.Name
	}
	return map[api.StmtKind]string{api.SBegin: "begin", api.SCommit: "commit", api.SRollback: "rollback"}[s.Kind]
}

// partsAndDepth is how many parts anything has that a statement is made of, and how deep its expressions are, by their types.
func partsAndDepth(v reflect.Value) (parts, deep int) {
	more := func(v reflect.Value) {
		p, d := partsAndDepth(v)
		parts, deep = parts+p, max(deep, d)
	}
	switch v.Kind() {
	case reflect.Struct:
		for i := range v.NumField() {
			more(v.Field(i))
		}
		switch v.Interface().(type) {
		case api.Expr:
			return parts + 1, deep + 1
		case api.Item, api.Source, api.Key, api.KeyCol, api.Col:
			return parts + 1, deep
		}
	case reflect.Slice:
		for i := range v.Len() {
			more(v.Index(i))
		}
		switch v.Interface().(type) {
		case []string, [][]api.Expr:
			return parts + v.Len(), deep
		}
	}
	return parts, deep
}
