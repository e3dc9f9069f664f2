package rule

import (
	"slices"

	"caracole/api"
	"caracole/guard"
	"caracole/plain"
)

// spot is a term on the way to the place, and in which argument it has the place. This argument is what it was when the way went there first.
type spot struct {
	*node
	arg int
}

// rest returns how many terms there are beside the argument.
func (s spot) rest() int { return s.size - s.parts[s.arg].size }

// course is what becomes of a term step by step.
type course struct {
	rules   map[int]rule
	way     []spot // the terms that have the place in them, from the outside
	here    *node  // the place; or the whole term, if it is a value
	outside int    // how many terms there are that are not in here
	trace   []int  // the rules of the steps that were done
	out     []*node
	err     api.Errno // with which the program has ended
}

func start(n *node) *course {
	c := &course{rules: rules(), here: n}
	c.settle()
	return c
}

// settle goes on to the place. What has become a value goes into the term around it.
func (c *course) settle() {
search:
	for {
		for n, arg := range c.here.inward() {
			c.here = n
			if arg == itself {
				break search
			}
			c.enter(spot{node: n, arg: arg})
		}
		last := len(c.way) - 1
		if last < 0 {
			break search
		}
		s := c.way[last]
		c.leave(last)
		c.here = s.with(s.arg, c.here)
	}
}

func (c *course) enter(s spot) {
	c.way = append(c.way, s)
	c.outside += s.rest()
}

// leave cuts the way, and leaves open what comes in the place of what is cut off.
func (c *course) leave(at int) {
	for _, s := range c.way[at:] {
		c.outside -= s.rest()
	}
	c.way = c.way[:at]
}

// inside returns the term at a spot of the way with something at the place.
func (c *course) inside(at int, n *node) *node {
	for _, s := range slices.Backward(c.way[at:]) {
		n = s.with(s.arg, n)
	}
	return n
}

// whole returns the whole term.
func (c *course) whole() *node { return c.inside(0, c.here) }

// around returns the function that puts its argument at the place in the term at a spot of the way.
func (c *course) around(at int) *node {
	hole := made(&api.Term{Op: api.Var, Name: api.RuleHole})
	return made(&api.Term{Op: api.Fn, Names: []string{api.RuleHole}}, c.inside(at, hole))
}

// run goes on until so many steps were done in all, or until it is over.
func (c *course) run(most int) {
next:
	if c.here.value || c.err != api.OK || len(c.trace) == most {
		return
	}
	c.step()
	goto next
}

// step does a step, and fails if it is too large.
func (c *course) step() {
	r, ok := c.rules[c.here.Op]
	if !ok {
		guard.Fail(api.ErrStuck)
	}
	c.trace = append(c.trace, r.number())
	_, c.err = guard.Call(func() bool {
		c.rewrite(r)
		return true
	})
	if c.err == api.OK {
		limit(c.outside + c.here.size)
		c.settle()
	}
}

func (c *course) rewrite(r rule) {
	switch r := r.(type) {
	case inner:
		c.here = r.becomes(c.here)
	case outer:
		r.rewrite(c)
	}
	if _, ok := r.(emit); ok {
		c.out = append(c.out, c.here)
	}
}

// shown returns all that was put out.
func (c *course) shown() []api.Datum { return plain.Each(c.out, (*node).show) }

// result returns what a run ends with.
func (c *course) result() api.Result {
	r := api.Result{Out: c.shown(), Err: c.err}
	switch {
	case c.here.value:
		r.Value = c.here.show()
	case c.err == api.OK:
		r.Err = api.ErrLimit
	}
	return r
}
