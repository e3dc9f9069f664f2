package term

import (
	"caracole/api"
	"caracole/datum"
	"caracole/guard"
	"caracole/plain"
)

// operate returns what an operation returns for valid data. It may share memory with them, and be too large, or no valid symbol or string.
func operate(op string, args []api.Datum) api.Datum {
	switch kindOf(op) {
	case ofNumbers:
		a := numberOf(args[0])
		b := numberOf(args[1])
		return reckoning(op)(a, b)
	case ofTwo:
		return ofBoth(op, args[0], args[1])
	case question:
		return truth(args[0].Kind == kindAsked(op))
	}
	return ofOnly(op, args[0])
}

// whole is a number at work.
type whole int

func numberOf(d api.Datum) whole {
	needKind(d, api.Num)
	return whole(d.Num)
}

func needKind(d api.Datum, kind int) {
	if d.Kind != kind {
		guard.Fail(api.ErrKind)
	}
}

// reckoning returns what an operation does with two numbers.
func reckoning(op string) func(a, b whole) api.Datum {
	switch op {
	case "+":
		return whole.plus
	case "-":
		return whole.minus
	case "*":
		return whole.times
	case "quo":
		return whole.quotient
	case "rem":
		return whole.remainder
	}
	return whole.less
}

func (a whole) plus(b whole) api.Datum  { return (a + b).datum() }
func (a whole) minus(b whole) api.Datum { return (a - b).datum() }
func (a whole) times(b whole) api.Datum { return (a * b).datum() }
func (a whole) less(b whole) api.Datum  { return truth(a < b) }

func (a whole) quotient(b whole) api.Datum  { return (a / b.divisor()).datum() }
func (a whole) remainder(b whole) api.Datum { return (a % b.divisor()).datum() }

func (a whole) divisor() whole {
	if a == 0 {
		guard.Fail(api.ErrZero)
	}
	return a
}

func (a whole) datum() api.Datum {
	if a > api.NumMost || a < -api.NumMost {
		guard.Fail(api.ErrLarge)
	}
	return number(int(a))
}

func number(n int) api.Datum { return api.Datum{Kind: api.Num, Num: n} }

func truth(is bool) api.Datum {
	d := api.Datum{Kind: api.Bool}
	if is {
		d.Num = 1
	}
	return d
}

// noKind is the kind of functions, which no datum is.
const noKind = -1

func kindAsked(op string) int {
	switch op {
	case "pair?":
		return api.Pair
	case "null?":
		return api.Nil
	case "num?":
		return api.Num
	case "sym?":
		return api.Sym
	case "str?":
		return api.Str
	case "bool?":
		return api.Bool
	case "vec?":
		return api.Vec
	}
	return noKind
}

func ofBoth(op string, a, b api.Datum) api.Datum {
	if op == "eq" {
		return truth(plain.Equal(a, b))
	}
	return plain.List(b, a)
}

func ofOnly(op string, d api.Datum) api.Datum {
	switch op {
	case "car":
		needKind(d, api.Pair)
		return d.Parts[0]
	case "cdr":
		needKind(d, api.Pair)
		return d.Parts[1]
	case "not":
		return truth(plain.Equal(d, truth(false)))
	case "fail":
		fail(d)
	case "chars":
		return chars(d)
	case "string":
		return text(d)
	case "name":
		needKind(d, api.Sym)
		return api.Datum{Kind: api.Str, Text: d.Text}
	case "symbol":
		needKind(d, api.Str)
		return api.Datum{Kind: api.Sym, Text: d.Text}
	case "vector":
		return api.Datum{Kind: api.Vec, Parts: elements(d, api.ErrKind)}
	}
	needKind(d, api.Vec)
	return plain.List(api.Datum{}, d.Parts...)
}

func fail(d api.Datum) {
	needKind(d, api.Num)
	if d.Num < int(api.ErrForm) || d.Num > int(api.ErrStuck) {
		guard.Fail(api.ErrRange)
	}
	guard.Fail(api.Errno(d.Num))
}

func chars(d api.Datum) api.Datum {
	needKind(d, api.Str)
	var l []api.Datum
	for _, r := range d.Text {
		l = append(l, number(int(r)))
	}
	return plain.List(api.Datum{}, l...)
}

func text(d api.Datum) api.Datum {
	l := elements(d, api.ErrKind)
	for _, x := range l {
		needKind(x, api.Num)
	}
	for _, x := range l {
		if x.Num < ' ' || x.Num > '~' {
			guard.Fail(api.ErrRange)
		}
	}
	bytes := plain.Each(l, func(x api.Datum) byte { return byte(x.Num) })
	return api.Datum{Kind: api.Str, Text: string(bytes)}
}

// own returns a datum that shares no memory with others, and fails if it is not valid.
func own(d api.Datum) api.Datum { return guard.Get(datum.At(d, nil)) }
