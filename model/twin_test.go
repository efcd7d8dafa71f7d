package model

import (
	"maps"
	"slices"

	"cardindex/agg"
	"cardindex/api"
	"cardindex/eval"
	"cardindex/record"
	"cardindex/value"
)

// twin_test.go: the chapter's words said in another way: candidates are made source by source, not gone through; lists are held against one another, each with each; what may be told is tried.

// twin is a query of right rows.
type twin struct {
	api.Query
	binds []api.Value
	rows  [][][]api.Value // candidates
}

// twinOf is a query, or its error ahead of the Words' order; from where to where what it tells counts.
func twinOf(s api.Schema, d api.Data, q api.Query, binds []api.Value) (*twin, api.Errno) {
	t := &twin{Query: q, binds: binds, rows: [][][]api.Value{nil}}
	byName := map[string][]api.Row{}
	for i, of := range s.Tables {
		byName[of.Name] = d.Rows[i]
	}
	for _, of := range q.From {
		rows, there := byName[of.Name]
		if !there {
			return nil, api.ErrNone
		}
		var more [][][]api.Value
		for _, c := range t.rows {
			for _, row := range rows {
				more = append(more, append(slices.Clone(c), row.Vals))
			}
		}
		t.rows = more
	}
	if len(t.rows) > api.MaxOf {
		return nil, api.ErrRows
	}
	for _, l := range [][]api.Expr{q.Limit, q.Offset} {
		for _, e := range l[max(0, len(l)-1):] {
			if v, err := eval.Eval(e, api.Env{Binds: binds}); err != api.OK {
				return nil, err
			} else if v.Kind != api.VInt {
				return nil, api.ErrLimit
			}
		}
	}
	return t, api.OK
}

// cut is what Offset and Limit leave of a list of so many: how many are left out, and how many told.
func (t *twin) cut(many int) (left, told int) {
	number := func(l []api.Expr, none int64) int64 {
		for _, e := range l {
			v, _ := eval.Eval(e, api.Env{Binds: t.binds})
			none = v.N
		}
		return none
	}
	offset, limit := number(t.Offset, 0), number(t.Limit, -1)
	for left < many && int64(left) < offset {
		left++
	}
	for left+told < many && (limit < 0 || int64(told) < limit) {
		told++
	}
	return left, told
}

// all is the values of expressions.
func all(l []api.Expr, x api.Env) (told []api.Value, err api.Errno) {
	for i := 0; i < len(l) && err == api.OK; i++ {
		var v api.Value
		v, err = eval.Eval(l[i], x)
		told = append(told, v)
	}
	return told, err
}

// yes tells whether each of these is true; each is asked.
func yes(l []api.Expr, x api.Env) (bool, api.Errno) {
	vals, err := all(l, x)
	return !slices.ContainsFunc(vals, func(v api.Value) bool { is, known := value.Truth(v); return !is || !known }), err
}

func sameValues(a, b []api.Value) bool {
	return slices.EqualFunc(a, b, func(v, w api.Value) bool { return value.Compare(v, w) == 0 })
}

// taken is the candidates that Where takes.
func (t *twin) taken() (told [][][]api.Value, err api.Errno) {
	for _, c := range t.rows {
		is, err := yes(t.Where, api.Env{Rows: c, Binds: t.binds})
		if err != api.OK {
			return nil, err
		}
		if is {
			told = append(told, c)
		}
	}
	return told, api.OK
}

// envs is what Items are computed of: of each row, or of each group.
func (t *twin) envs() (told []api.Env, err api.Errno) {
	rows, err := t.taken()
	if err != api.OK {
		return nil, err
	}
	if !t.Grouped {
		for _, c := range rows {
			told = append(told, api.Env{Rows: c, Binds: t.binds})
		}
		return told, api.OK
	}
	return t.groups(rows)
}

// groups is likewise of groups; their totals may be none: that is told where they are asked for.
func (t *twin) groups(rows [][][]api.Value) (told []api.Env, err api.Errno) {
	if len(t.Group) == 0 {
		told = append(told, api.Env{Binds: t.binds})
	}
	args := map[int][][]api.Value{} // by the group's place; of each total what it was handed
	for _, c := range rows {
		x := api.Env{Rows: c, Binds: t.binds}
		keys, err := all(t.Group, x)
		if err != api.OK {
			return nil, err
		}
		at := slices.IndexFunc(told, func(g api.Env) bool { return sameValues(g.Keys, keys) })
		if at < 0 {
			at = len(told)
			told = append(told, api.Env{Keys: keys, Binds: t.binds})
		}
		args[at] = append(args[at], make([][]api.Value, len(t.Totals)-len(args[at]))...)
		for i, of := range t.Totals {
			vals, err := all(of.Args[:min(1, len(of.Args))], x)
			if err != api.OK {
				return nil, err
			}
			args[at][i] = append(args[at][i], append(vals, num(0))[0])
		}
	}
	for at := range told {
		for i, of := range t.Totals {
			v, err := totalOf(of, append(slices.Clone(args[at]), make([][]api.Value, len(t.Totals))...)[i])
			if err != api.OK { // what comes ahead of it is asked first
				told[at].Rows = [][]api.Value{{num(int64(err))}}
				break
			}
			told[at].Totals = append(told[at].Totals, v)
		}
	}
	return told, api.OK
}

// totalOf is what a total comes to.
func totalOf(t api.Total, vals []api.Value) (api.Value, api.Errno) {
	name := map[bool]string{true: "count*", false: t.Func}[len(t.Args) == 0]
	a, err := agg.New(name, t.Distinct)
	if err != api.OK {
		return null, err
	}
	for _, v := range vals {
		a.Step(v)
	}
	return a.Final()
}

// tells is all that is told, in its order: of each the Items and the sort.
func (t *twin) tells() (told [][2][]api.Value, err api.Errno) {
	envs, err := t.envs()
	if err != api.OK {
		return nil, err
	}
	for _, x := range envs {
		if t.Grouped && len(x.Rows) > 0 {
			return nil, api.Errno(x.Rows[0][0].N)
		}
		is := true
		if t.Grouped {
			is, err = yes(t.Having, x)
		}
		if err != api.OK {
			return nil, err
		}
		if !is {
			continue
		}
		exprs := slices.Clone(t.Items)
		for _, k := range t.Order {
			exprs = append(exprs, k.Expr)
		}
		vals, err := all(exprs, x)
		if err != api.OK {
			return nil, err
		}
		told = t.with(told, vals[:len(t.Items)], vals[len(t.Items):])
	}
	return told, api.OK
}

// with is what is told, and one more, behind the last one that it is not below.
func (t *twin) with(told [][2][]api.Value, items, sort []api.Value) [][2][]api.Value {
	if t.Distinct && slices.ContainsFunc(told, func(l [2][]api.Value) bool { return sameValues(l[0], items) }) {
		return told
	}
	at := len(told)
	for at > 0 && t.isAhead(sort, told[at-1][1]) {
		at--
	}
	return slices.Insert(told, at, [2][]api.Value{items, sort})
}

func (t *twin) isAhead(a, b []api.Value) bool {
	for i, k := range t.Order {
		if order := value.Compare(a[i], b[i]); order != 0 {
			return (order < 0) != k.Desc
		}
	}
	return false
}

// twinQuery is what a query of right rows and binds tells.
func twinQuery(s api.Schema, d api.Data, q api.Query, binds []api.Value) ([][]api.Value, api.Errno) {
	t, err := twinOf(s, d, q, binds)
	if err != api.OK {
		return nil, err
	}
	lines, err := t.tells()
	if err != api.OK {
		return nil, err
	}
	left, many := t.cut(len(lines))
	var told [][]api.Value
	for _, l := range lines[left : left+many] {
		told = append(told, l[0])
	}
	return told, api.OK
}

// twinAdmits tries for each of got all that it might be.
func twinAdmits(s api.Schema, d api.Data, q api.Query, binds []api.Value, got [][]api.Value) bool {
	t, err := twinOf(s, d, q, binds)
	if err != api.OK {
		return len(got) == 0
	}
	lines, err := t.tells()
	switch {
	case err != api.OK && q.Grouped:
		return true
	case err != api.OK:
		var may [][]api.Value
		for _, c := range t.rows {
			x := api.Env{Rows: c, Binds: binds}
			is, err := yes(q.Where, x)
			items, itemsErr := all(q.Items, x)
			if err == api.OK && is && itemsErr == api.OK {
				may = append(may, items)
			}
		}
		return match(got, func(i, j int) bool { return slices.Equal(got[i], may[j]) }, len(may))
	}
	left, many := t.cut(len(lines))
	return len(got) == many && match(got, func(i, j int) bool {
		return slices.Equal(got[i], lines[j][0]) && sameValues(lines[j][1], lines[left+i][1])
	}, len(lines))
}

// match tells whether each of got can be one of so many, each its own: whatever stands in the way of one goes elsewhere, if it can.
func match(got [][]api.Value, may func(i, j int) bool, many int) bool {
	holds := map[int]int{}
	var place func(i int, tried map[int]bool) bool
	place = func(i int, tried map[int]bool) bool {
		for j := range many {
			if tried[j] || !may(i, j) {
				continue
			}
			tried[j] = true
			if other, held := holds[j]; !held || place(other, tried) {
				holds[j] = i
				return true
			}
		}
		return false
	}
	for i := range got {
		if !place(i, map[int]bool{}) {
			return false
		}
	}
	return true
}

// twinChange is what the rows of a table come to, and how many were changed; of right rows and binds.
func twinChange(s api.Schema, d api.Data, r api.Res, binds []api.Value) (told []api.Row, n int, err api.Errno) {
	if r.Kind < api.SInsert || r.Kind > api.SDelete {
		return nil, 0, api.ErrTree
	}
	at := 0
	for at < len(s.Tables) && s.Tables[at].Name != r.Table.Name {
		at++
	}
	if at == len(s.Tables) {
		return nil, 0, api.ErrNone
	}
	then, fresh := map[int][]api.Value{}, map[int]bool{}
	for _, row := range d.Rows[at] {
		then[row.Id] = row.Vals
	}
	if r.Kind == api.SInsert {
		n, err = twinInsert(s, d, r, binds, len(s.Tables[at].Cols), then, fresh)
	} else {
		n, err = twinUpdate(d.Rows[at], r, binds, then, fresh)
	}
	if err != api.OK {
		return nil, 0, err
	}
	for _, id := range slices.Sorted(maps.Keys(then)) {
		told = append(told, api.Row{Id: id, Vals: then[id]})
	}
	return told, n, twinSound(s, s.Tables[at], told, fresh)
}

func twinInsert(s api.Schema, d api.Data, r api.Res, binds []api.Value, cols int, then map[int][]api.Value, fresh map[int]bool) (int, api.Errno) {
	var lists [][]api.Value
	for _, row := range r.Rows {
		vals, err := all(row, api.Env{Binds: binds})
		if err != api.OK {
			return 0, err
		}
		lists = append(lists, vals)
	}
	for _, q := range r.Query {
		told, err := twinQuery(s, d, q, binds)
		if err != api.OK {
			return 0, err
		}
		lists = append(lists, told...)
	}
	for _, list := range lists {
		id := 1
		for other := range then {
			id = max(id, other+1)
		}
		if id > api.MaxId {
			return 0, api.ErrRows
		}
		then[id], fresh[id] = twinGiven(make([]api.Value, cols), r.Cols, list), true
	}
	return len(lists), api.OK
}

// twinGiven is a row's values with others in some columns.
func twinGiven(vals []api.Value, cols []int, list []api.Value) []api.Value {
	told := slices.Clone(vals)
	for at := range told {
		for i, col := range cols {
			if col == at && i < len(list) {
				told[at] = list[i]
			}
		}
	}
	return told
}

func twinUpdate(rows []api.Row, r api.Res, binds []api.Value, then map[int][]api.Value, fresh map[int]bool) (int, api.Errno) {
	env := func(row api.Row) api.Env { return api.Env{Rows: [][]api.Value{row.Vals}, Binds: binds} }
	var taken []api.Row
	for _, row := range rows {
		is, err := yes(r.Where, env(row))
		if err != api.OK {
			return 0, err
		}
		if is {
			taken = append(taken, row)
		}
	}
	for _, row := range taken {
		if r.Kind == api.SDelete {
			delete(then, row.Id)
			continue
		}
		vals, err := all(r.Exprs, env(row))
		if err != api.OK {
			return 0, err
		}
		then[row.Id], fresh[row.Id] = twinGiven(row.Vals, r.Cols, vals), true
	}
	return len(taken), api.OK
}

// twinSound is what is wrong with rows of which these are new.
func twinSound(s api.Schema, t api.Table, rows []api.Row, fresh map[int]bool) api.Errno {
	cols := func(index api.Index, row api.Row) (vals []api.Value, desc []bool) {
		for _, c := range index.Cols {
			vals, desc = append(vals, row.Vals[c.Col]), append(desc, c.Desc)
		}
		return vals, desc
	}
	var indexes []api.Index
	for _, index := range s.Indexes {
		if index.Table == t.Name {
			indexes = append(indexes, index)
		}
	}
	for _, row := range rows {
		if !fresh[row.Id] {
			continue
		}
		for i, c := range t.Cols {
			if c.NotNull && row.Vals[i] == null {
				return api.ErrNull
			}
		}
		if _, err := record.Put(row.Vals); err != api.OK {
			return err
		}
		for _, index := range indexes {
			vals, desc := cols(index, row)
			if _, err := record.Key(append(vals, num(int64(row.Id))), append(desc, false)); err != api.OK {
				return err
			}
		}
	}
	for _, index := range indexes {
		for i, row := range rows {
			for _, other := range rows[:i] {
				vals, _ := cols(index, row)
				others, _ := cols(index, other)
				if index.Unique && sameValues(vals, others) && !slices.Contains(vals, null) {
					return api.ErrUnique
				}
			}
		}
	}
	return api.OK
}
