// Package delta has the operations on data, for valid data: layer 4 says what they are, and the layers that run programs use them on data that they have made themselves.
package delta

import (
	"caracole/api"
	"caracole/datum"
	"caracole/guard"
	"caracole/plain"
)

// kind is a kind of operations.
type kind int

const (
	noOperation kind = iota
	ofNumbers        // they take two numbers
	ofTwo            // they take any two data
	question         // they ask of what kind a datum is
	ofOne            // all others take one datum
)

func kindOf(op string) kind {
	switch op {
	case "+", "-", "*", "quo", "rem", "<":
		return ofNumbers
	case "eq", "cons":
		return ofTwo
	case "pair?", "null?", "num?", "sym?", "str?", "bool?", "vec?", "fn?":
		return question
	case "car", "cdr", "not", "fail", "chars", "string", "name", "symbol", "vector", "items":
		return ofOne
	}
	return noOperation
}

// Takes returns how many arguments an operation takes, and 0 if there is no such operation.
func Takes(op string) int {
	switch kindOf(op) {
	case ofNumbers, ofTwo:
		return 2
	case question, ofOne:
		return 1
	}
	return 0
}

// Of returns what an operation returns for as many valid data as it takes, or fails with its error. The result may share memory with them.
func Of(op string, args ...api.Datum) api.Datum {
	switch kindOf(op) {
	case ofNumbers:
		a := numberOf(args[0])
		b := numberOf(args[1])
		return reckoning(op)(a, b)
	case ofTwo:
		return ofBoth(op, args[0], args[1])
	case question:
		return Truth(args[0].Kind == kindAsked(op))
	}
	return ofOnly(op, args[0])
}

// whole is a number at work.
type whole int

func numberOf(d api.Datum) whole {
	needKind(d, api.Num)
	return whole(d.Num)
}

func needKind(d api.Datum, kind int) {
	if d.Kind != kind {
		guard.Fail(api.ErrKind)
	}
}

// reckoning returns what an operation does with two numbers.
func reckoning(op string) func(a, b whole) api.Datum {
	switch op {
	case "+":
		return whole.plus
	case "-":
		return whole.minus
	case "*":
		return whole.times
	case "quo":
		return whole.quotient
	case "rem":
		return whole.remainder
	}
	return whole.less
}

func (a whole) plus(b whole) api.Datum  { return (a + b).datum() }
func (a whole) minus(b whole) api.Datum { return (a - b).datum() }
func (a whole) times(b whole) api.Datum { return (a * b).datum() }
func (a whole) less(b whole) api.Datum  { return Truth(a < b) }

func (a whole) quotient(b whole) api.Datum  { return (a / b.divisor()).datum() }
func (a whole) remainder(b whole) api.Datum { return (a % b.divisor()).datum() }

func (a whole) divisor() whole {
	if a == 0 {
		guard.Fail(api.ErrZero)
	}
	return a
}

func (a whole) datum() api.Datum {
	if a > api.NumMost || a < -api.NumMost {
		guard.Fail(api.ErrLarge)
	}
	return number(int(a))
}

func number(n int) api.Datum { return api.Datum{Kind: api.Num, Num: n} }

// Truth returns the boolean that says whether something is so.
func Truth(is bool) api.Datum {
	d := api.Datum{Kind: api.Bool}
	if is {
		d.Num = 1
	}
	return d
}

// noKind is the kind of functions, which no datum is.
const noKind = -1

func kindAsked(op string) int {
	switch op {
	case "pair?":
		return api.Pair
	case "null?":
		return api.Nil
	case "num?":
		return api.Num
	case "sym?":
		return api.Sym
	case "str?":
		return api.Str
	case "bool?":
		return api.Bool
	case "vec?":
		return api.Vec
	}
	return noKind
}

func ofBoth(op string, a, b api.Datum) api.Datum {
	if op == "eq" {
		return Truth(plain.Equal(a, b))
	}
	return notLarge(plain.List(b, a))
}

// notLarge fails if a datum has too many pieces.
func notLarge(d api.Datum) api.Datum {
	if plain.Pieces(d) > api.DatumSize {
		guard.Fail(api.ErrLarge)
	}
	return d
}

// allowed fails unless the text of a datum is allowed.
func allowed(d api.Datum) api.Datum {
	guard.Check(datum.Check(d))
	return d
}

func ofOnly(op string, d api.Datum) api.Datum {
	switch op {
	case "car":
		needKind(d, api.Pair)
		return d.Parts[0]
	case "cdr":
		needKind(d, api.Pair)
		return d.Parts[1]
	case "not":
		return Truth(plain.Equal(d, Truth(false)))
	case "fail":
		fail(d)
	case "chars":
		return chars(d)
	case "string":
		return text(d)
	case "name":
		needKind(d, api.Sym)
		return api.Datum{Kind: api.Str, Text: d.Text}
	case "symbol":
		needKind(d, api.Str)
		return allowed(api.Datum{Kind: api.Sym, Text: d.Text})
	case "vector":
		return api.Datum{Kind: api.Vec, Parts: elements(d)}
	}
	needKind(d, api.Vec)
	return notLarge(plain.List(api.Datum{}, d.Parts...))
}

func fail(d api.Datum) {
	needKind(d, api.Num)
	if d.Num < int(api.ErrForm) || d.Num > int(api.ErrStuck) {
		guard.Fail(api.ErrRange)
	}
	guard.Fail(api.Errno(d.Num))
}

func chars(d api.Datum) api.Datum {
	needKind(d, api.Str)
	var l []api.Datum
	for _, r := range d.Text {
		l = append(l, number(int(r)))
	}
	return plain.List(api.Datum{}, l...)
}

func text(d api.Datum) api.Datum {
	l := elements(d)
	for _, x := range l {
		needKind(x, api.Num)
	}
	for _, x := range l {
		if x.Num < ' ' || x.Num > '~' {
			guard.Fail(api.ErrRange)
		}
	}
	bytes := plain.Each(l, func(x api.Datum) byte { return byte(x.Num) })
	return allowed(api.Datum{Kind: api.Str, Text: string(bytes)})
}

// elements returns the elements of a list as they stand in it, and fails if a datum is none.
func elements(d api.Datum) []api.Datum {
	l, tail := plain.Elements(d)
	needKind(tail, api.Nil)
	return l
}
