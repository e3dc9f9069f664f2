package rule

import (
	"slices"

	"caracole/api"
	"caracole/core"
	"caracole/guard"
	"caracole/plain"
)

// rule is a rule of the language.
type rule interface {
	// number returns which one it is.
	number() int
}

// inner is a rule that rewrites the place, and needs to know nothing else.
type inner interface {
	rule
	// becomes returns what comes in the place of a node with such a rule.
	becomes(n *node) *node
}

// outer is a rule to which it matters what is around the place.
type outer interface {
	rule
	// rewrite does the step in a whole course, and changes nothing if it fails.
	rewrite(c *course)
}

// rank is the number of a rule.
type rank int

func (r rank) number() int { return int(r) }

type (
	call   struct{ rank } // of a function with values
	apply  struct{ rank } // of a function to a list of values
	choice struct{ rank } // of one of two arguments
	local  struct{ rank } // a name for a value
	prim   struct{ rank } // an operation on values
	finish struct{ rank } // what was evaluated under a handler or a mark is a value
	emit   struct{ rank } // a value is put out
	signal struct{ rank } // a handler is told a value
	marks  struct{ rank } // the marks around are listed
)

// rules returns the rules of terms, by their Op.
func rules() map[int]rule {
	return map[int]rule{
		api.App: call{api.RuleCall}, api.Apply: apply{api.RuleApply}, api.If: choice{api.RuleIf}, api.Let: local{api.RuleLet}, api.Prim: prim{api.RulePrim},
		api.Handle: finish{api.RuleHandle}, api.Signal: signal{api.RuleSignal}, api.Mark: finish{api.RuleMark}, api.Marks: marks{api.RuleMarks}, api.Emit: emit{api.RuleEmit},
	}
}

func (call) becomes(n *node) *node { return n.parts[0].called(n.parts[1:]) }

func (apply) becomes(n *node) *node {
	args := core.Elements(n.parts[1])
	return n.parts[0].called(plain.Each(args, nodeFor))
}

func (choice) becomes(n *node) *node {
	if core.IsFalse(n.parts[0]) {
		return n.parts[2]
	}
	return n.parts[1]
}

func (local) becomes(n *node) *node {
	var x exchange
	return x.and(n.Name, n.parts[0]).into(n.parts[1])
}

func (prim) becomes(n *node) *node {
	values := plain.Each(n.parts, (*node).asValue)
	return nodeFor(core.Operate(n.Name, values...))
}

func (finish) becomes(n *node) *node { return n.parts[1] }

func (emit) becomes(n *node) *node { return n.parts[0] }

func (signal) rewrite(c *course) {
	at := c.handle()
	told := c.here.parts[0]
	handler := c.way[at].parts[0]
	rest := c.around(at)
	c.leave(at)
	c.here = made(&api.Term{Op: api.App}, handler, told, rest)
}

func (marks) rewrite(c *course) {
	around := c.marks()
	pieces := 1
	for _, m := range around {
		pieces += 1 + m.Pieces()
	}
	core.Limit(pieces)
	c.here = list(around...)
}

// handle returns where the innermost handler on the way is that is told of signals, and fails if there is none.
func (c *course) handle() int {
	found := itself
search:
	for at, s := range slices.Backward(c.way) {
		switch {
		case s.Op == api.Handle && s.arg == 1:
			found = at
			break search
		}
	}
	if found == itself {
		guard.Fail(api.ErrNone)
	}
	return found
}

// marks returns the marks around the place, the innermost one first.
func (c *course) marks() []*node {
	var l []*node
	for _, s := range slices.Backward(c.way) {
		if s.Op == api.Mark && s.arg == 1 {
			l = append(l, s.parts[0])
		}
	}
	return l
}
