package rule

import (
	"slices"

	"caracole/api"
	"caracole/core"
	"caracole/plain"
)

func quoted(d api.Datum) *node { return made(&api.Term{Op: api.Quote, Data: d}) }

// judge finds out whether a new node is a value.
func (n *node) judge() {
	switch n.Op {
	case api.Quote, api.Fn, api.Rec:
		n.value = true
	case api.Prim:
		if n.Name == pairing && n.parts[0].value && n.parts[1].value && !allData(n.parts) {
			n.extent = 1 + n.parts[0].Pieces() + n.parts[1].Pieces()
			n.value = n.extent <= api.DatumSize
		}
	}
}

// pairing is the operation that makes pairs.
const pairing = "cons"

func allData(values []*node) bool {
	return !slices.ContainsFunc(values, func(v *node) bool { return v.Op != api.Quote })
}

// Datum returns the datum that a value is, if it is one.
func (n *node) Datum() (d api.Datum, ok bool) { return n.Data, n.Op == api.Quote }

// Halves returns both parts of a value that is a pair, but no datum.
func (n *node) Halves() (first, second core.Value, ok bool) {
	if n.Op != api.Prim {
		return nil, nil, false
	}
	return n.parts[0], n.parts[1], true
}

// Pieces returns of how many pieces a value consists.
func (n *node) Pieces() int {
	switch n.Op {
	case api.Quote:
		return plain.Pieces(n.Data)
	case api.Prim:
		return n.extent
	}
	return 1
}

// show returns what a value is shown as.
func (n *node) show() api.Datum { return core.Show(n) }

// asValue returns a node as a value, which it has to be.
func (n *node) asValue() core.Value { return n }

// nodeFor returns the node of what was made of values that are nodes.
func nodeFor(v core.Value) *node {
	if n, ok := v.(*node); ok {
		return n
	}
	d, _ := v.Datum()
	return quoted(d)
}

// join returns the pair of two values.
func join(v, w *node) *node {
	if allData([]*node{v, w}) {
		return quoted(plain.List(w.Data, v.Data))
	}
	return made(&api.Term{Op: api.Prim, Name: pairing}, v, w)
}

// list returns the list of some values.
func list(values ...*node) *node {
	all := quoted(api.Datum{})
	for _, v := range slices.Backward(values) {
		all = join(v, all)
	}
	return all
}

func (n *node) isFunction() bool { return n.Op == api.Fn || n.Op == api.Rec }

// called returns the body of a function with values in the place of its parameters, or fails if it cannot be called with them.
func (n *node) called(values []*node) *node {
	core.NeedKind(n.isFunction())
	core.NeedArgs(len(n.Names), len(values))
	var x exchange
	if n.Op == api.Rec {
		x = x.and(n.Name, n)
	}
	for i, name := range n.Names {
		x = x.and(name, values[i])
	}
	return x.into(n.parts[0])
}
