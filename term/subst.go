package term

import (
	"maps"
	"strconv"

	"caracole/api"
	"caracole/plain"
)

// frontLong is how many bytes of a name a fresh one begins with, so that it is a symbol with five digits behind them.
const frontLong = 15

// fresh returns the first name of a name with a number behind it that is not taken.
func fresh(name string, taken set[string]) string {
	front := name[:min(len(name), frontLong)]
	n := 0
next:
	n++
	name = front + strconv.Itoa(n)
	if taken[name] {
		goto next
	}
	return name
}

// replacement is a valid term that comes in the place of a name, of how many terms it consists, and the names that are free in it.
type replacement struct {
	api.Term
	size int
	free set[string]
}

func replacementOf(t *api.Term) replacement {
	return replacement{size: valid(t), free: free(t), Term: *t}
}

// exchange says what comes in the place of names.
type exchange map[string]replacement

// without returns the exchange for an argument in which names are bound.
func (x exchange) without(bound []*string) exchange {
	out := x
	for _, name := range bound {
		if _, ok := x[*name]; !ok {
			continue
		}
		if len(out) == len(x) {
			out = maps.Clone(x) // only now, since most binders bind none of the names
		}
		delete(out, *name)
	}
	return out
}

// within returns the exchange of those names that are free in an argument.
func (x exchange) within(inside set[string]) exchange {
	out := maps.Clone(x)
	maps.DeleteFunc(out, func(name string, _ replacement) bool { return !inside[name] })
	return out
}

// catch says whether one of some names is free in what comes in the place of others.
func (x exchange) catch(bound []*string) bool {
	caught := false
search:
	for _, r := range x {
		for _, name := range bound {
			if r.free[*name] {
				caught = true
				break search
			}
		}
	}
	return caught
}

// brings returns all names that are free in what comes in the place of others.
func (x exchange) brings() set[string] {
	all := set[string]{}
	for _, r := range x {
		maps.Copy(all, r.free)
	}
	return all
}

// substitution replaces names in a term, where this stands.
type substitution struct{ size int }

// in replaces names in a term, and fails as soon as it is too large.
func (s *substitution) in(t *api.Term, x exchange) {
	if r, ok := x[t.Name]; ok && t.Op == api.Var {
		s.size += r.size - 1
		limit(s.size)
		*t = plain.CopyTerm(r.Term)
		return
	}
	if len(x) == 0 {
		return
	}
	n := atWork(t)
	for i := range t.Args {
		arg := &t.Args[i]
		inside := s.under(binds(n, i), arg, x)
		s.in(arg, inside)
	}
}

// under returns the exchange for an argument in which names are bound. Those of them that would catch a name are renamed first.
func (s *substitution) under(bound []*string, arg *api.Term, x exchange) exchange {
	x = x.without(bound)
	if !x.catch(bound) {
		return x
	}
	inside := free(arg)
	x = x.within(inside)
	brought := x.brings()
	taken := maps.Clone(brought)
	maps.Copy(taken, inside)
	for _, name := range bound {
		taken[*name] = true
	}
	for _, name := range bound {
		if !brought[*name] {
			continue
		}
		old := *name
		*name = fresh(old, taken)
		taken[*name] = true // and so is the old one still, since it is brought
		s.in(arg, renaming(old, *name))
	}
	return x
}

func renaming(old, name string) exchange {
	v := api.Term{Op: api.Var, Name: name}
	return exchange{old: {Term: v, size: 1, free: set[string]{name: true}}}
}
