package rule

import (
	"iter"
	"slices"

	"caracole/api"
	"caracole/core"
	"caracole/plain"
)

// node is a term at work. It does not change once it is made, so that terms can have parts in common.
type node struct {
	*api.Term // but for its Args, in the place of which there are the parts
	parts     []*node
	size      int      // of how many terms it consists
	value     bool     // whether it is a value, if it is closed
	extent    int      // of how many pieces it consists, if it is a pair of values that are not both data
	free      []string // the names that are free in it, ascending
}

// nodeOf returns a valid term at work, which shares memory with the term.
func nodeOf(t api.Term) *node { return made(&t, plain.Each(t.Args, nodeOf)...) }

// made returns a node with the fields of a term, and with parts.
func made(t *api.Term, parts ...*node) *node {
	n := &node{Term: t, parts: parts, size: 1}
	if t.Op == api.Var {
		n.free = []string{t.Name}
	}
	for i, p := range parts {
		n.size += p.size
		n.free = union(n.free, n.unbound(i))
	}
	n.judge()
	return n
}

// term returns the term that is at work, which shares no memory with it.
func (n *node) term() api.Term {
	return api.Term{Op: n.Op, Name: n.Name, Names: slices.Clone(n.Names), Data: plain.Copy(n.Data), Args: plain.Each(n.parts, (*node).term)}
}

// with returns the node with another part.
func (n *node) with(arg int, part *node) *node {
	parts := make([]*node, len(n.parts))
	copy(parts, n.parts)
	parts[arg] = part
	return made(n.Term, parts...)
}

// unbound returns the names that are free in an argument, and not bound there.
func (n *node) unbound(arg int) []string {
	free := n.parts[arg].free
	bound := func(name string) bool { return core.Binds(n.Term, arg, name) }
	if !slices.ContainsFunc(free, bound) {
		return free
	}
	return slices.DeleteFunc(slices.Clone(free), bound)
}

// union returns the names of two lists, in order.
func union(a, b []string) []string {
	switch {
	case len(a) == 0:
		return b
	case len(b) == 0:
		return a
	}
	all := slices.Concat(a, b)
	slices.Sort(all)
	return slices.Compact(all)
}

// itself says that the way of a node ends with it.
const itself = -1

// next returns in which argument the place of a node is that is no value.
func (n *node) next() int {
	return slices.IndexFunc(n.parts[:core.Early(n.Op, len(n.parts))], func(p *node) bool { return !p.value })
}

// inward yields the terms that have the place of a node in them, from the outside to the place, and in which argument each one has it. A value has no place.
func (n *node) inward() iter.Seq2[*node, int] {
	return func(yield func(*node, int) bool) {
		var visit func(n *node)
		visit = func(n *node) {
			arg := n.next()
			if yield(n, arg) && arg != itself {
				visit(n.parts[arg])
			}
		}
		if !n.value {
			visit(n)
		}
	}
}
