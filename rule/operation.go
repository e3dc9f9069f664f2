package rule

import (
	"caracole/api"
	"caracole/delta"
	"caracole/guard"
)

// operation is what an operation does with values that are not all data.
type operation struct {
	takes func(v *node) bool         // says whether the first one is of the right kind
	makes func(values []*node) *node // returns what is made of them
}

// on returns what is made of values, or fails.
func (o operation) on(values []*node) *node {
	needKind(o.takes(values[0]))
	return o.makes(values)
}

func operationOf(name string) operation {
	switch name {
	case pairing:
		return operation{takes: anything, makes: tooLarge}
	case "car":
		return operation{takes: (*node).isPair, makes: first}
	case "cdr":
		return operation{takes: (*node).isPair, makes: second}
	case "pair?":
		return operation{takes: anything, makes: whether((*node).isPair)}
	case "fn?":
		return operation{takes: anything, makes: whether((*node).isFunction)}
	case "eq", "not", "null?", "num?", "sym?", "str?", "bool?", "vec?":
		return operation{takes: anything, makes: whether(nothing)}
	}
	return operation{takes: nothing}
}

// isPair says whether a value that is no datum is a pair.
func (n *node) isPair() bool { return n.Op == api.Prim }

func anything(*node) bool { return true }

func nothing(*node) bool { return false }

func first(values []*node) *node { return values[0].parts[0] }

func second(values []*node) *node { return values[0].parts[1] }

// whether returns an operation that answers a question.
func whether(is func(v *node) bool) func(values []*node) *node {
	return func(values []*node) *node { return quoted(delta.Truth(is(values[0]))) }
}

// tooLarge fails, since a pair of values that is not too large is a value itself.
func tooLarge([]*node) *node {
	guard.Fail(api.ErrLarge)
	return nil
}
