package term

import (
	"cmp"
	"iter"
	"maps"
	"slices"

	"caracole/api"
	"caracole/guard"
)

// node is a term at work. There is a type for each sort of binder.
type node interface {
	// names returns where the names are that it binds, in their order.
	names() []*string
}

type (
	open      struct{ *api.Term } // binds nothing
	local     struct{ *api.Term } // Let
	function  struct{ *api.Term } // Fn
	recursive struct{ function }  // Rec
)

func (o open) names() []*string { return nil }

func (l local) names() []*string { return []*string{&l.Name} }

func (f function) names() []*string {
	out := make([]*string, len(f.Names))
	for i := range len(f.Names) {
		out[i] = &f.Names[i]
	}
	return out
}

func (r recursive) names() []*string { return append([]*string{&r.Name}, r.function.names()...) }

func atWork(t *api.Term) node {
	switch t.Op {
	case api.Let:
		return local{t}
	case api.Fn:
		return function{t}
	case api.Rec:
		return recursive{function{t}}
	}
	return open{t}
}

// binds returns where the names are that a term binds in one of its arguments.
func binds(n node, arg int) []*string {
	if _, ok := n.(local); ok && arg == 0 {
		return nil // the value of a Let does not know its name
	}
	return n.names()
}

// argument returns where an argument is, so that it can be read or written there.
func argument(t *api.Term, arg int) *api.Term {
	if arg < 0 || arg >= len(t.Args) {
		guard.Fail(api.ErrRange)
	}
	return &t.Args[arg]
}

// place returns where the term at a path is.
func place(t *api.Term, path []int) *api.Term {
	for _, arg := range path {
		t = argument(t, arg)
	}
	return t
}

// bound returns the names that are bound where a path leads to.
func bound(t *api.Term, path []int) set[string] {
	all := set[string]{}
	for _, arg := range path {
		inside := argument(t, arg)
		for _, name := range binds(atWork(t), arg) {
			all[*name] = true
		}
		t = inside
	}
	return all
}

// set is a set of names, or of other things that have an order.
type set[K cmp.Ordered] map[K]bool

// inOrder yields the elements, ascending.
func (s set[K]) inOrder() iter.Seq[K] {
	return func(yield func(K) bool) {
		for _, k := range slices.Sorted(maps.Keys(s)) {
			if !yield(k) {
				return
			}
		}
	}
}

// join puts all elements of two sets into the larger one, which it returns.
func join[K cmp.Ordered](a, b set[K]) set[K] {
	if len(a) < len(b) {
		a, b = b, a
	}
	maps.Copy(a, b)
	return a
}

// free returns the names that are free in a term.
func free(t *api.Term) set[string] { return addFree(set[string]{}, t) }

// addFree returns a set with the names that are free in a term, which may be made of the one that is given: so there are no more sets than binders, and all in all few names are copied.
func addFree(all set[string], t *api.Term) set[string] {
	if t.Op == api.Var {
		all[t.Name] = true
	}
	n := atWork(t)
	for i := range t.Args {
		names := binds(n, i)
		if len(names) == 0 {
			all = addFree(all, &t.Args[i])
			continue
		}
		inside := free(&t.Args[i])
		for _, name := range names {
			delete(inside, *name)
		}
		all = join(all, inside)
	}
	return all
}
