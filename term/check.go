package term

import (
	"iter"
	"slices"

	"caracole/api"
	"caracole/datum"
	"caracole/guard"
	"caracole/plain"
	"caracole/side"
)

// limit fails if a term has too many terms.
func limit(terms int) {
	if terms > api.TermSize {
		guard.Fail(api.ErrLarge)
	}
}

// count returns of how many terms a term consists. It goes no further than to one more than most, since there is no end to terms that are parts of themselves.
func count(t *api.Term, most int) int {
	n := 1
	for i := range t.Args {
		if n > most {
			break
		}
		n += count(&t.Args[i], most-n)
	}
	return n
}

// deepest returns how many terms are inside of one another at most.
func deepest(t *api.Term) int {
	most := 0
	for i := range t.Args {
		most = max(most, deepest(&t.Args[i]))
	}
	return most + 1
}

// walk yields each term of a term before its Args, and these from the first to the last one.
func walk(t *api.Term) iter.Seq[*api.Term] {
	return func(yield func(*api.Term) bool) { visit(t, yield) }
}

func visit(t *api.Term, yield func(*api.Term) bool) bool {
	if !yield(t) {
		return false
	}
	for i := range t.Args {
		if !visit(&t.Args[i], yield) {
			return false
		}
	}
	return true
}

// valid returns of how many terms a term consists, and fails with its first error if it is not valid.
func valid(t *api.Term) int {
	n := count(t, api.TermSize)
	limit(n)
	c := checker{words()}
	c.inspect(t)
	for _, e := range side.BySide(t.Args, c.check) {
		guard.Check(e)
	}
	return n
}

// checker looks whether terms are allowed.
type checker struct{ vocabulary }

// check returns the first error of a term and of all in it.
func (c checker) check(t api.Term) api.Errno {
	_, e := guard.Call(func() int {
		for part := range walk(&t) {
			c.inspect(part)
		}
		return 0
	})
	return e
}

// inspect fails with the first error that a term has in itself, whatever its Args are.
func (c checker) inspect(t *api.Term) {
	if t.Op < api.Quote || t.Op > api.Emit {
		guard.Fail(api.ErrKind)
	}
	c.inspectName(t)
	c.inspectNames(t)
	inspectData(t)
	argumentsOf(t.Op, t.Name).need(len(t.Args))
}

func (c checker) inspectName(t *api.Term) {
	switch t.Op {
	case api.Var, api.Let, api.Rec:
		c.need(t.Name)
	case api.Prim:
		takes(t.Name)
	default:
		if t.Name != "" {
			guard.Fail(api.ErrName)
		}
	}
}

func (c checker) inspectNames(t *api.Term) {
	most := 0
	switch atWork(t).(type) {
	case function, recursive:
		most = api.FnParams
	}
	upTo(most).need(len(t.Names))
	for i, name := range t.Names {
		c.need(name)
		differ(name, t.Name, t.Names[:i])
	}
}

// differ fails if a parameter of a function is there before, or is the function's own name.
func differ(param, own string, before []string) {
	if param == own || slices.Contains(before, param) {
		guard.Fail(api.ErrTwice)
	}
}

func inspectData(t *api.Term) {
	if t.Op == api.Quote {
		guard.Check(datum.Check(t.Data))
		return
	}
	if !plain.Equal(t.Data, api.Datum{}) {
		guard.Fail(api.ErrForm)
	}
}
