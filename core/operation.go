package core

import (
	"caracole/api"
	"caracole/delta"
)

// Operate returns what an operation makes of as many values as it takes, or fails with its error.
func Operate(op string, values ...Value) Value {
	if args, ok := allData(values...); ok {
		d := delta.Of(op, args...)
		return NewData(&d)
	}
	return operationOf(op).on(values)
}

// operation is what an operation does with values that are not all data.
type operation struct {
	takes func(v Value) bool         // says whether the first one is of the right kind
	makes func(values []Value) Value // returns what is made of them
}

func (o operation) on(values []Value) Value {
	NeedKind(o.takes(values[0]))
	return o.makes(values)
}

func operationOf(name string) operation {
	switch name {
	case "cons":
		return operation{takes: anything, makes: pair}
	case "car":
		return operation{takes: IsPair, makes: first}
	case "cdr":
		return operation{takes: IsPair, makes: second}
	case "pair?":
		return operation{takes: anything, makes: whether(IsPair)}
	case "fn?":
		return operation{takes: anything, makes: whether(IsFunction)}
	case "eq", "not", "null?", "num?", "sym?", "str?", "bool?", "vec?":
		return operation{takes: anything, makes: whether(nothing)}
	}
	return operation{takes: nothing}
}

func anything(Value) bool { return true }

func nothing(Value) bool { return false }

func pair(values []Value) Value { return Join(values[0], values[1]) }

func first(values []Value) Value {
	v, _, _ := values[0].Halves()
	return v
}

func second(values []Value) Value {
	_, v, _ := values[0].Halves()
	return v
}

// whether returns an operation that answers a question.
func whether(is func(v Value) bool) func(values []Value) Value {
	return func(values []Value) Value {
		answer := delta.Truth(is(values[0]))
		return NewData(&answer)
	}
}

// IsFalse says whether a value is the datum false.
func IsFalse(v Value) bool {
	d, ok := v.Datum()
	return ok && d.Kind == api.Bool && d.Num == 0
}
