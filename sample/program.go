package sample

import (
	"slices"

	"caracole/api"
)

// Sorts of what programs by chance are to end with.
const (
	aNumber = iota
	aTruth
	aList
	aFunction // of one number, which returns one
	anything
	sorts
)

// known is a name that is bound around, and what it is.
type known struct {
	name string
	sort int
}

// Program is a closed term that mostly ends with a value after not too many steps, and sometimes with an error. Handlers, signals, marks and what is put out are frequent, and so are names that are bound several times.
func (r *Random) Program(depth int) api.Term {
	sort := r.Below(sorts)
	if depth == 0 || r.Below(2) == 0 {
		return r.program(depth, sort, nil)
	}
	handler := r.handler(depth-1, sort, nil)
	return api.Term{Op: api.Handle, Args: []api.Term{handler, r.program(depth, sort, nil)}}
}

// Programs are many programs of fewer than so many terms, and in the place of some what they are after some steps.
func Programs(seed uint64, n, below int, after func(t api.Term, steps int) (api.Term, []api.Datum, api.Errno)) []api.Term {
	r := NewRandom(seed)
	var l []api.Term
	for i := range n {
		x := r.Program(i % 6)
		if i%3 == 0 {
			x, _, _ = after(x, r.Below(12))
		}
		if TermSize(x) < below {
			l = append(l, x)
		}
	}
	return l
}

func (r *Random) program(depth, sort int, around []known) api.Term {
	if r.Below(60) == 0 {
		sort = r.Below(sorts) // which may be a wrong one
	}
	if sort == anything {
		sort = r.Below(anything)
	}
	if depth == 0 {
		return r.simple(sort, around)
	}
	if r.Below(2) == 0 {
		return r.common(depth-1, sort, around)
	}
	switch sort {
	case aNumber:
		return r.number(depth-1, around)
	case aTruth:
		return r.truth(depth-1, around)
	case aList:
		return r.pairs(depth-1, around)
	}
	return r.function(depth-1, aNumber, around)
}

// simple is a name that is known, or a value.
func (r *Random) simple(sort int, around []known) api.Term {
	for i, k := range slices.Backward(around) {
		hidden := slices.ContainsFunc(around[i+1:], func(l known) bool { return l.name == k.name })
		if k.sort == sort && !hidden && r.Below(3) > 0 {
			return Var(k.name)
		}
	}
	switch sort {
	case aNumber:
		return Quote(Num(r.Below(5) - 1))
	case aTruth:
		return Quote(Bool(r.Below(2)))
	case aList:
		return Quote(r.List(2))
	}
	return r.function(0, aNumber, around)
}

func (r *Random) number(depth int, around []known) api.Term {
	of := func(sort int) api.Term { return r.program(depth, sort, around) }
	switch r.Below(9) {
	case 0, 1, 2:
		first := of(aNumber)
		return Prim([]string{"+", "-", "*", "quo", "rem"}[r.Below(5)], first, of(aNumber))
	case 3:
		first := of(aFunction)
		return api.Term{Op: api.App, Args: []api.Term{first, of(aNumber)}}
	case 4, 8:
		return api.Term{Op: api.Signal, Args: []api.Term{of(anything)}}
	case 5:
		return r.loop(depth, around)
	case 6:
		first := of(aNumber)
		return Prim("car", Prim("cons", first, of(anything)))
	}
	if r.Below(6) == 0 {
		return Prim("fail", of(aNumber))
	}
	return Prim("car", of(aList))
}

func (r *Random) truth(depth int, around []known) api.Term {
	of := func(sort int) api.Term { return r.program(depth, sort, around) }
	switch r.Below(4) {
	case 0:
		first := of(anything)
		return Prim("eq", first, of(anything))
	case 1:
		first := of(aNumber)
		return Prim("<", first, of(aNumber))
	case 2:
		return Prim([]string{"pair?", "null?", "num?", "fn?", "not"}[r.Below(5)], of(anything))
	}
	return Prim("not", of(aTruth))
}

func (r *Random) pairs(depth int, around []known) api.Term {
	of := func(sort int) api.Term { return r.program(depth, sort, around) }
	switch r.Below(6) {
	case 0:
		return api.Term{Op: api.Marks}
	case 1:
		return Prim("cdr", of(aList))
	case 2:
		return Prim("items", Prim("vector", of(aList)))
	}
	first := of(anything)
	return Prim("cons", first, of(aList))
}

// bound is a name for something, and what is known then.
func (r *Random) bound(sort int, around []known) (string, []known) {
	name := []string{"x", "y", "z", "f", "k", "n", "v", "v1", "x1"}[r.Below(9)]
	return name, append(slices.Clone(around), known{name: name, sort: sort})
}

// function takes one number.
func (r *Random) function(depth, sort int, around []known) api.Term {
	name, inside := r.bound(aNumber, around)
	return api.Term{Op: api.Fn, Names: []string{name}, Args: []api.Term{r.program(depth, sort, inside)}}
}

// loop calls itself a few times.
func (r *Random) loop(depth int, around []known) api.Term {
	start := Quote(Num(r.Below(4)))
	inside := append(slices.Clone(around), known{name: "n", sort: aNumber})
	again := api.Term{Op: api.App, Args: []api.Term{Var("loop"), Prim("-", Var("n"), Quote(Num(1)))}}
	more := again
	if r.Below(2) == 0 {
		more = Prim("+", r.program(depth, aNumber, inside), again)
	}
	last := r.program(depth, aNumber, inside)
	body := api.Term{Op: api.If, Args: []api.Term{Prim("<", Var("n"), Quote(Num(1))), last, more}}
	return api.Term{Op: api.App, Args: []api.Term{{Op: api.Rec, Name: "loop", Names: []string{"n"}, Args: []api.Term{body}}, start}}
}

// common is a term that can be of any sort.
func (r *Random) common(depth, sort int, around []known) api.Term {
	of := func(sort int) api.Term { return r.program(depth, sort, around) }
	t := api.Term{Op: api.If}
	switch r.Below(8) {
	case 0:
		t.Args = []api.Term{of(aTruth), of(sort), of(sort)}
	case 1:
		t.Op = api.Let
		value := r.Below(anything)
		name, inside := r.bound(value, around)
		t.Name, t.Args = name, []api.Term{of(value), r.program(depth, sort, inside)}
	case 2, 3:
		return r.calls(depth, sort, around)
	case 4:
		t.Op, t.Args = api.Mark, []api.Term{of(anything), of(sort)}
	case 5, 6:
		t.Op, t.Args = api.Handle, []api.Term{r.handler(depth, sort, around), of(sort)}
	default:
		t.Op, t.Args = api.Emit, []api.Term{of(sort)}
	}
	return t
}

// calls is a call of a function with some parameters.
func (r *Random) calls(depth, sort int, around []known) api.Term {
	f := api.Term{Op: api.Fn}
	inside := around
	var args []api.Term
	for range r.Below(4) {
		value := r.Below(anything)
		name, more := r.bound(value, inside)
		if slices.Contains(f.Names, name) {
			continue
		}
		f.Names, inside = append(f.Names, name), more
		args = append(args, r.program(depth, value, around))
	}
	f.Args = []api.Term{r.program(depth, sort, inside)}
	switch r.Below(20) {
	case 0:
		args = append(args, r.simple(aNumber, around)) // one too many
	case 1:
		args = args[len(args)/2:] // too few, if there are some
	}
	if r.Below(3) > 0 {
		return api.Term{Op: api.App, Args: append([]api.Term{f}, args...)}
	}
	list := Quote(api.Datum{})
	for _, a := range slices.Backward(args) {
		list = Prim("cons", a, list)
	}
	return api.Term{Op: api.Apply, Args: []api.Term{f, list}}
}

// handler goes on not at all, once, or twice with what was going on.
func (r *Random) handler(depth, sort int, around []known) api.Term {
	told, inside := r.bound(anything, around)
	rest := "k"
	if told == rest {
		rest = "f"
	}
	inside = append(inside, known{name: rest, sort: -1})
	on := func() api.Term {
		return api.Term{Op: api.App, Args: []api.Term{Var(rest), r.program(depth, aNumber, inside)}}
	}
	f := api.Term{Op: api.Fn, Names: []string{told, rest}}
	switch r.Below(4) {
	case 0:
		f.Args = []api.Term{r.program(depth, sort, inside)}
	case 1:
		f.Args = []api.Term{{Op: api.Let, Name: "y", Args: []api.Term{on(), on()}}}
	default:
		f.Args = []api.Term{on()}
	}
	return f
}
