package datum

import (
	"slices"

	"caracole/api"
	"caracole/guard"
)

// limit fails if a result would have too many pieces. It is asked before the result is made, which could be much larger than any datum may be.
func limit(pieces int) {
	if pieces > api.DatumSize {
		guard.Fail(api.ErrLarge)
	}
}

// builder makes a datum anew; do makes each of its parts.
type builder struct {
	do func(api.Datum) api.Datum
}

func (b builder) build(d api.Datum) api.Datum {
	out := api.Datum{Kind: d.Kind, Num: d.Num, Text: d.Text}
	if len(d.Parts) > 0 {
		out.Parts = make([]api.Datum, len(d.Parts))
	}
	for i := range len(d.Parts) {
		out.Parts[i] = b.do(d.Parts[i])
	}
	return out
}

// clone makes a datum that shares no memory with d.
func clone(d api.Datum) api.Datum { return builder{do: clone}.build(d) }

func cloneAll(l []api.Datum) []api.Datum {
	out := make([]api.Datum, len(l))
	for i, x := range l {
		out[i] = clone(x)
	}
	return out
}

// exchange puts new in the place of parts that equal old.
type exchange struct{ old, new api.Datum }

func (x exchange) in(d api.Datum) api.Datum {
	if equal(d, x.old) {
		return clone(x.new)
	}
	return builder{do: x.in}.build(d)
}

// place returns where the part at a path is, so that it can be read or written there.
func place(d *api.Datum, path []int) *api.Datum {
	for _, i := range path {
		if i < 0 || i >= len(d.Parts) {
			guard.Fail(api.ErrRange)
		}
		d = &d.Parts[i]
	}
	return d
}

// elements returns the elements of a list as they stand in it, and fails if d is none.
func elements(d api.Datum) []api.Datum {
	var out []api.Datum
next:
	if d.Kind == api.Pair {
		out = append(out, d.Parts[0])
		d = d.Parts[1]
		goto next
	}
	if d.Kind != api.Nil {
		guard.Fail(api.ErrKind)
	}
	return out
}

// join makes pairs of the elements, with tail behind them.
func join(tail api.Datum, l ...api.Datum) api.Datum {
	out := clone(tail)
	for _, x := range slices.Backward(l) {
		out = api.Datum{Kind: api.Pair, Parts: []api.Datum{clone(x), out}}
	}
	return out
}
