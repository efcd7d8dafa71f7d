package code

import "cardindex/api"

// op is how an instruction is called, and what it has in its four fields: a letter for each (see letters).
type op struct {
	word, fields string
}

// ops is all there are, by their numbers.
var ops = [...]op{
	api.OConst:  {"const", "rk--"},
	api.OBind:   {"bind", "rb--"},
	api.OMove:   {"move", "rr--"},
	api.OTwo:    {"two", "rrro"},
	api.OOne:    {"one", "rr-1"},
	api.OIs:     {"is", "rr-1"},
	api.OCast:   {"cast", "rr-1"},
	api.OCall:   {"call", "rCmf"},
	api.OMust:   {"must", "r--1"},
	api.OJump:   {"jump", "j---"},
	api.OIf:     {"if", "jr--"},
	api.ODiffer: {"differ", "jDDd"},
	api.OFirst:  {"first", "cj--"},
	api.OSeek:   {"seek", "ijDd"},
	api.ONext:   {"next", "cn--"},
	api.OPast:   {"past", "ijDd"},
	api.OFind:   {"find", "yjr-"},
	api.OCol:    {"col", "rcl-"},
	api.ORowid:  {"rowid", "rc--"},
	api.OAdd:    {"add", "sKV-"},
	api.OSorted: {"sorted", "sj--"},
	api.OAfter:  {"after", "sn--"},
	api.OTake:   {"take", "rsu-"},
	api.OClear:  {"clear", "t---"},
	api.OStep:   {"step", "tr--"},
	api.OTotal:  {"total", "rt--"},
	api.ORow:    {"row", "N---"},
	api.ONewId:  {"newid", "rw--"},
	api.OInsert: {"insert", "wrr-"},
	api.ODelete: {"delete", "wr--"},
	api.ODefine: {"define", "x---"},
	api.OBegin:  {"begin", "----"},
	api.OCommit: {"commit", "----"},
	api.OBack:   {"back", "----"},
	api.OHalt:   {"halt", "----"},
}

// opOf is what there is to be told of o; nothing of none.
func opOf(o api.Op) op {
	if int(o) >= len(ops) {
		return op{}
	}
	return ops[o]
}

// isAlone: does an instruction of that Op stand ahead of the end alone?
func isAlone(o api.Op) bool {
	return o == api.ODefine || o == api.OBegin || o == api.OCommit || o == api.OBack
}

// fieldsOf is what stands in the fields of an instruction, in order.
func fieldsOf(i api.Instr) [4]int {
	return [...]int{i.A, i.B, i.C, i.D}
}

var signs = [...]string{"+", "-", "*", "/", "%", "||", "=", "<>", "<", "<=", ">", ">=", "and", "or", "like"}

var funcs = [...]string{"length", "upper", "lower", "abs", "typeof", "hex", "ifnull", "instr", "substr", "coalesce"}
