package machine

import (
	"caracole/api"
	"caracole/core"
)

// function is a function of the language: a Fn or Rec, and what the names in it are.
type function struct {
	core.Function
	*api.Term
	env *scope
}

// rest is what was going on up to a handler, as a function.
type rest struct {
	core.Function
	frames []*frame
}

// bind is what a name is.
type bind struct {
	name string
	val  core.Value
}

// scope is binds, the innermost one first, which hides others of its name. It does not change once it is made, so that scopes can have binds in common.
type scope struct {
	bind
	outer *scope
}

// with returns a scope with more binds, the last one of which is the innermost.
func (s *scope) with(binds ...bind) *scope {
	for _, b := range binds {
		s = &scope{bind: b, outer: s}
	}
	return s
}

// find returns what a name is, if it is known.
func (s *scope) find(name string) (core.Value, bool) {
	for ; s != nil; s = s.outer {
		if s.name == name {
			return s.val, true
		}
	}
	return nil, false
}

// frame is a term of which some arguments were evaluated, and the next one is. It does not change once it is made, since it may be in several rests.
type frame struct {
	*api.Term
	done []core.Value
	env  *scope
}

// and returns the frame with one more value.
func (f *frame) and(v core.Value) *frame {
	n := len(f.done)
	return &frame{Term: f.Term, done: append(f.done[:n:n], v), env: f.env}
}

// waits says whether some arguments are not evaluated yet that have to be.
func (f *frame) waits() bool { return len(f.done) < core.Early(f.Op, len(f.Args)) }

// around says whether the second argument of a Handle or a Mark is evaluated, and the first one is known.
func (f *frame) around(op int) bool { return f.Op == op && len(f.done) == 1 }
