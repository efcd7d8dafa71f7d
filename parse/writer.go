package parse

import "cardindex/api"

// writer shows a right statement. What is too long is given up: then text is no more than a part of it.
type writer struct {
	text []byte
	long bool
}

// say writes tokens, with a blank ahead of each that has one there.
func (w *writer) say(tokens ...string) {
	for _, token := range tokens {
		blank := ""
		if n := len(w.text); n > 0 && w.text[n-1] != '(' && token != "," && token != ")" {
			blank = " "
		}
		if len(w.text)+len(blank)+len(token) > api.MaxText {
			w.long = true
		}
		if w.long {
			return
		}
		w.text = append(append(w.text, blank...), token...)
	}
}

// sayIf writes tokens where something is so.
func (w *writer) sayIf(so bool, tokens ...string) {
	if so {
		w.say(tokens...)
	}
}

// each shows a list, with a comma between two.
func each[T any](w *writer, list []T, show func(T)) {
	for i, part := range list {
		if i > 0 {
			w.say(",")
		}
		show(part)
	}
}

// enclose shows a list in parentheses.
func enclose[T any](w *writer, list []T, show func(T)) {
	w.say("(")
	each(w, list, show)
	w.say(")")
}

// behind shows a list behind keys, if there is one.
func behind[T any](w *writer, list []T, show func(T), keys ...string) {
	if len(list) > 0 {
		w.say(keys...)
		each(w, list, show)
	}
}
