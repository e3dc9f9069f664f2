package datum

import (
	"caracole/api"
	"caracole/guard"
	"caracole/plain"
)

// limit fails if a result would have too many pieces. It is asked before the result is made, which could be much larger than any datum may be.
func limit(pieces int) {
	if pieces > api.DatumSize {
		guard.Fail(api.ErrLarge)
	}
}

// builder makes a datum anew; do makes each of its parts.
type builder struct {
	do func(api.Datum) api.Datum
}

func (b builder) build(d api.Datum) api.Datum {
	return api.Datum{Kind: d.Kind, Num: d.Num, Text: d.Text, Parts: plain.Each(d.Parts, b.do)}
}

// exchange puts new in the place of parts that equal old.
type exchange struct{ old, new api.Datum }

func (x exchange) in(d api.Datum) api.Datum {
	if plain.Equal(d, x.old) {
		return plain.Copy(x.new)
	}
	return builder{do: x.in}.build(d)
}

// place returns where the part at a path is, so that it can be read or written there.
func place(d *api.Datum, path []int) *api.Datum {
	for _, i := range path {
		if i < 0 || i >= len(d.Parts) {
			guard.Fail(api.ErrRange)
		}
		d = &d.Parts[i]
	}
	return d
}

// elements returns the elements of a list as they stand in it, and fails if d is none.
func elements(d api.Datum) []api.Datum {
	l, tail := plain.Elements(d)
	if tail.Kind != api.Nil {
		guard.Fail(api.ErrKind)
	}
	return l
}

func copyAll(l []api.Datum) []api.Datum { return plain.Each(l, plain.Copy) }
