package rule

import (
	"slices"

	"caracole/api"
	"caracole/core"
	"caracole/side"
)

// bond is a value that comes in the place of a name.
type bond struct {
	name  string
	value *node
}

// exchange is what comes in the place of names. In values no name is free, so none can be caught.
type exchange []bond

// and returns the exchange with one more name.
func (x exchange) and(name string, value *node) exchange {
	return append(x[:len(x):len(x)], bond{name: name, value: value})
}

// touches says whether something in a node is replaced.
func (x exchange) touches(n *node) bool {
	return slices.ContainsFunc(x, func(b bond) bool { return slices.Contains(n.free, b.name) })
}

// of returns what comes in the place of one of the names.
func (x exchange) of(name string) *node {
	return x[slices.IndexFunc(x, func(b bond) bool { return b.name == name })].value
}

// under returns what is replaced in an argument, which is all that is not bound there.
func (x exchange) under(n *node, arg int) exchange {
	bound := func(b bond) bool { return core.Binds(n.Term, arg, b.name) }
	if !slices.ContainsFunc(x, bound) {
		return x
	}
	return slices.DeleteFunc(slices.Clone(x), bound)
}

// in returns a node in which the names are replaced.
func (x exchange) in(n *node) *node {
	if !x.touches(n) {
		return n
	}
	if n.Op == api.Var {
		return x.of(n.Name)
	}
	parts := make([]*node, len(n.parts))
	for i, p := range n.parts {
		parts[i] = x.under(n, i).in(p)
	}
	return made(n.Term, parts...)
}

// sideBySide is of how many terms a body consists for which it pays to replace names in its parts side by side.
const sideBySide = 500

// into returns the body of a function, or of a Let, in which the names are replaced.
func (x exchange) into(body *node) *node {
	if body.size < sideBySide || !x.touches(body) {
		return x.in(body)
	}
	parts := make([]part, len(body.parts))
	for i := range len(parts) {
		parts[i] = part{node: body.parts[i], exchange: x.under(body, i)}
	}
	return made(body.Term, side.BySide(parts, part.replaced)...)
}

// part is an argument, and what is replaced in it.
type part struct {
	*node
	exchange
}

func (p part) replaced() *node { return p.in(p.node) }
