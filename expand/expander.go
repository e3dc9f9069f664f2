package expand

import (
	"slices"

	"caracole/api"
	"caracole/guard"
	"caracole/term"
)

// expander is a program that is being expanded.
type expander struct {
	request
	origins
	scope
	uses  []string // the texts of the names of macros, step by step
	term  api.Term
	terms int // of how many terms this consists so far
}

// stands returns what a symbol stands for at this place.
func (x *expander) stands(s symbol) meaning {
	if m, ok := x.scope[s]; ok {
		return m
	}
	return x.homes[s.number]
}

// canonical returns the term in its canonical form.
func (x *expander) canonical() api.Term {
	if x.terms > api.TermSize {
		guard.Fail(api.ErrLarge)
	}
	return guard.Get(term.Canon(x.term))
}

// task is a datum that is to be expanded, where its term comes, and what the form around binds in it.
type task struct {
	api.Datum
	into  *api.Term
	bonds []bond
}

// run does a task, and all that come of it. They wait in a list, since expansions can be nested far deeper than data are: only what binds symbols takes a call in a call.
func (x *expander) run(t task) {
	waiting := []task{t}
	for len(waiting) > 0 {
		last := len(waiting) - 1
		next := waiting[last]
		waiting = waiting[:last]
		if len(next.bonds) > 0 {
			x.inside(next)
			continue
		}
		parts := x.read(next)
		slices.Reverse(parts)
		waiting = append(waiting, parts...)
	}
}

// inside does a task inside of the form that binds symbols.
func (x *expander) inside(t task) {
	before := x.enter(t.bonds)
	defer x.leave(before)
	t.bonds = nil
	x.run(t)
}

// read makes the term of a datum, and returns the tasks that are left for its parts.
func (x *expander) read(t task) []task {
again:
	switch t.Kind {
	case api.Sym:
		x.put(x.reference(t.Text), t.into)
		return nil
	case api.Pair:
		l := elements(t.Datum)
		if m, ok := x.macroOf(l[0]); ok {
			t.Datum = x.use(m, t.Datum)
			goto again
		}
		return x.list(t, l)
	}
	x.put(guard.Get(term.OfDatum(t.Datum)), t.into)
	return nil
}

// put puts a term where it comes, and returns this place. When there are more than there can be, nobody will see them, and so they are put nowhere.
func (x *expander) put(t api.Term, into *api.Term) *api.Term {
	x.terms++
	if x.terms > api.TermSize {
		into = &api.Term{}
	}
	*into = t
	return into
}
