package rule

import (
	"slices"

	"caracole/api"
	"caracole/guard"
	"caracole/plain"
)

func quoted(d api.Datum) *node { return made(&api.Term{Op: api.Quote, Data: d}) }

// judge finds out whether a new node is a value.
func (n *node) judge() {
	switch n.Op {
	case api.Quote, api.Fn, api.Rec:
		n.value = true
	case api.Prim:
		if n.Name == pairing && n.parts[0].value && n.parts[1].value && !allData(n.parts) {
			n.extent = 1 + n.parts[0].pieces() + n.parts[1].pieces()
			n.value = n.extent <= api.DatumSize
		}
	}
}

// pairing is the operation that makes pairs.
const pairing = "cons"

func allData(values []*node) bool {
	return !slices.ContainsFunc(values, func(v *node) bool { return v.Op != api.Quote })
}

// pieces returns of how many pieces a value consists.
func (n *node) pieces() int {
	switch n.Op {
	case api.Quote:
		return plain.Pieces(n.Data)
	case api.Prim:
		return n.extent
	}
	return 1
}

// show returns what a value is shown as.
func (n *node) show() api.Datum {
	switch n.Op {
	case api.Quote:
		return plain.Copy(n.Data)
	case api.Prim:
		return api.Datum{Kind: api.Pair, Parts: plain.Each(n.parts, (*node).show)}
	}
	return api.Datum{Kind: api.Sym, Text: "function"}
}

// join returns the pair of two values.
func join(v, w *node) *node {
	if allData([]*node{v, w}) {
		return quoted(plain.List(w.Data, v.Data))
	}
	return made(&api.Term{Op: api.Prim, Name: pairing}, v, w)
}

// list returns the list of some values.
func list(values ...*node) *node {
	all := quoted(api.Datum{})
	for _, v := range slices.Backward(values) {
		all = join(v, all)
	}
	return all
}

// elements returns the elements of a proper list, and fails if a value is none.
func (n *node) elements() []*node {
	var l []*node
	for n.Op == api.Prim {
		l = append(l, n.parts[0])
		n = n.parts[1]
	}
	needKind(n.Op == api.Quote)
	data, tail := plain.Elements(n.Data)
	needKind(tail.Kind == api.Nil)
	return append(l, plain.Each(data, quoted)...)
}

// needKind fails unless something is of the right kind.
func needKind(is bool) {
	if !is {
		guard.Fail(api.ErrKind)
	}
}

func (n *node) isFunction() bool { return n.Op == api.Fn || n.Op == api.Rec }

// called returns the body of a function with values in the place of its parameters, or fails if it cannot be called with them.
func (n *node) called(values []*node) *node {
	needKind(n.isFunction())
	switch {
	case len(values) < len(n.Names):
		guard.Fail(api.ErrFew)
	case len(values) > len(n.Names):
		guard.Fail(api.ErrMany)
	}
	var x exchange
	if n.Op == api.Rec {
		x = x.and(n.Name, n)
	}
	for i, name := range n.Names {
		x = x.and(name, values[i])
	}
	return x.into(n.parts[0])
}
