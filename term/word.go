package term

import (
	"caracole/api"
	"caracole/datum"
	"caracole/delta"
	"caracole/guard"
)

// forms has the words of the forms, by the Op of what they are read as. Var and App have none, and Prim has the operations.
var forms = [...]string{
	api.Quote: "quote", api.Fn: "fn", api.If: "if", api.Let: "let", api.Rec: "rec", api.Apply: "apply",
	api.Handle: "handle", api.Signal: "signal", api.Mark: "mark", api.Marks: "marks", api.Emit: "emit",
}

// span is the least and the greatest number of something that there may be.
type span [2]int

// arguments says how many Args a term may have, by its Op. Of a Prim its operation says it.
var arguments = [...]span{
	api.Fn: {1, 1}, api.App: {1, api.FnParams + 1}, api.If: {3, 3}, api.Let: {2, 2}, api.Rec: {1, 1}, api.Apply: {2, 2},
	api.Handle: {2, 2}, api.Signal: {1, 1}, api.Mark: {2, 2}, api.Emit: {1, 1},
}

func upTo(most int) span { return span{0, most} }

func exactly(n int) span { return span{n, n} }

// need fails unless a number is in the span, which then is no wider with it.
func (s span) need(n int) {
	switch {
	case s == span{min(s[0], n), max(s[1], n)}:
		return
	case n < s[0]:
		guard.Fail(api.ErrFew)
	}
	guard.Fail(api.ErrMany)
}

// argumentsOf says how many Args a term with an Op and a Name may have.
func argumentsOf(op int, name string) span {
	if op == api.Prim {
		return exactly(takes(name))
	}
	return arguments[op]
}

// takes returns how many arguments an operation takes, and fails unless it is one.
func takes(op string) int {
	n := delta.Takes(op)
	if n == 0 {
		guard.Fail(api.ErrName)
	}
	return n
}

// vocabulary has the words of all forms, and the Op of each.
type vocabulary map[string]int

func words() vocabulary {
	all := vocabulary{}
	for op, word := range forms {
		if word != "" {
			all[word] = op
		}
	}
	return all
}

// op returns the Op of a list that begins with a datum.
func (v vocabulary) op(first api.Datum) int {
	if first.Kind == api.Sym {
		if op, ok := v[first.Text]; ok {
			return op
		}
		if delta.Takes(first.Text) > 0 {
			return api.Prim
		}
	}
	return api.App
}

// isName says whether a text is a symbol that is no word.
func (v vocabulary) isName(s string) bool {
	symbol := api.Datum{Kind: api.Sym, Text: s}
	return v.op(symbol) == api.App && datum.Check(symbol) == api.OK
}

// need fails unless a text is a name.
func (v vocabulary) need(s string) {
	if !v.isName(s) {
		guard.Fail(api.ErrName)
	}
}
