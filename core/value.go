// Package core has what the layers that run programs of the core language have in common: values, what operations do with them, and how terms are evaluated.
package core

import (
	"slices"

	"caracole/api"
	"caracole/guard"
	"caracole/plain"
)

// Value is what a program computes with: a datum, a pair of two values that are not both data, or else a function. Each layer has functions of its own.
type Value interface {
	// Datum returns the datum that it is, if it is one.
	Datum() (d api.Datum, ok bool)
	// Halves returns both parts of a pair, if it is one and no datum.
	Halves() (first, second Value, ok bool)
	// Pieces returns of how many pieces it consists.
	Pieces() int
}

// Data is a value that is a datum.
type Data struct{ datum *api.Datum }

// NewData returns the value of a datum, which must not change any more.
func NewData(d *api.Datum) Data { return Data{datum: d} }

func (v Data) Datum() (d api.Datum, ok bool) { return *v.datum, true }

func (v Data) Halves() (first, second Value, ok bool) { return nil, nil, false }

func (v Data) Pieces() int { return plain.Pieces(*v.datum) }

// Function is what all functions have in common. A type of functions embeds it.
type Function struct{}

func (Function) Datum() (d api.Datum, ok bool) { return api.Datum{}, false }

func (Function) Halves() (first, second Value, ok bool) { return nil, nil, false }

func (Function) Pieces() int { return 1 }

// Pair is a pair of two values that are not both data.
type Pair struct {
	first, second Value
	pieces        int
}

func (p *Pair) Datum() (d api.Datum, ok bool) { return api.Datum{}, false }

func (p *Pair) Halves() (first, second Value, ok bool) { return p.first, p.second, true }

func (p *Pair) Pieces() int { return p.pieces }

// IsPair says whether a value is a pair that is no datum.
func IsPair(v Value) bool {
	_, _, ok := v.Halves()
	return ok
}

// IsFunction says whether a value is a function.
func IsFunction(v Value) bool {
	_, ok := v.Datum()
	return !ok && !IsPair(v)
}

// allData returns the data that values are, if all of them are data.
func allData(values ...Value) ([]api.Datum, bool) {
	l := make([]api.Datum, 0, len(values))
	for _, v := range values {
		d, ok := v.Datum()
		if !ok {
			return nil, false
		}
		l = append(l, d)
	}
	return l, true
}

// Limit fails if something has too many pieces.
func Limit(pieces int) {
	if pieces > api.DatumSize {
		guard.Fail(api.ErrLarge)
	}
}

// Join returns the pair of two values, and fails if it has too many pieces.
func Join(v, w Value) Value {
	Limit(1 + v.Pieces() + w.Pieces())
	return join(v, w)
}

func join(v, w Value) Value {
	if d, ok := allData(v, w); ok {
		pair := plain.List(d[1], d[0])
		return NewData(&pair)
	}
	return &Pair{first: v, second: w, pieces: 1 + v.Pieces() + w.Pieces()}
}

// List returns the list of some values, and fails if it has too many pieces. These are counted all at once, since it takes long to count them of each pair.
func List(values ...Value) Value {
	pieces := 1
	for _, v := range values {
		pieces += 1 + v.Pieces()
	}
	Limit(pieces)
	var list Value = NewData(&api.Datum{})
	for _, v := range slices.Backward(values) {
		list = join(v, list)
	}
	return list
}

// Elements returns the elements of a proper list, and fails if a value is none.
func Elements(v Value) []Value {
	var l []Value
	first, second, ok := v.Halves()
	for ok {
		l = append(l, first)
		v = second
		first, second, ok = v.Halves()
	}
	d, ok := v.Datum()
	NeedKind(ok)
	data, tail := plain.Elements(d)
	NeedKind(tail.Kind == api.Nil)
	for i := range data {
		l = append(l, NewData(&data[i]))
	}
	return l
}

// Show returns what a value is shown as.
func Show(v Value) api.Datum {
	if d, ok := v.Datum(); ok {
		return plain.Copy(d)
	}
	if first, second, ok := v.Halves(); ok {
		return api.Datum{Kind: api.Pair, Parts: []api.Datum{Show(first), Show(second)}}
	}
	return api.Datum{Kind: api.Sym, Text: "function"}
}

// NeedKind fails unless something is of the right kind.
func NeedKind(is bool) {
	if !is {
		guard.Fail(api.ErrKind)
	}
}
