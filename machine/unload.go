package machine

import (
	"slices"

	"caracole/api"
	"caracole/core"
	"caracole/guard"
	"caracole/plain"
)

// unloader makes terms of what is at work, and fails as soon as these are too large.
type unloader struct{ left int }

// finder says what comes in the place of a name, if something does. These terms are closed, so no name in them can be caught.
type finder func(name string) (core.Value, bool)

// under returns what says so in an argument of a term.
func (find finder) under(t *api.Term, arg int) finder {
	return func(name string) (core.Value, bool) {
		if core.Binds(t, arg, name) {
			return nil, false
		}
		return find(name)
	}
}

// unloaded returns the term of a state that has not failed.
func (s *state) unloaded() api.Term {
	u := &unloader{left: api.TermSize}
	inside := u.inside(s)
	for _, f := range s.stack.downward() {
		inside = u.around(f, inside)
	}
	return inside
}

// inside returns the term that is inside of all frames of a state.
func (u *unloader) inside(s *state) api.Term {
	if s.mode == found {
		return u.value(s.val)
	}
	return u.term(s.term, s.env.find)
}

// made returns a new term, and counts it.
func (u *unloader) made(t api.Term) api.Term {
	u.left--
	if u.left < 0 {
		guard.Fail(api.ErrLarge)
	}
	return t
}

// with returns a term with other arguments.
func (u *unloader) with(t *api.Term, arg func(i int) api.Term) api.Term {
	out := u.made(api.Term{Op: t.Op, Name: t.Name, Names: slices.Clone(t.Names), Data: plain.Copy(t.Data)})
	for i := range len(t.Args) {
		out.Args = append(out.Args, arg(i))
	}
	return out
}

func (u *unloader) term(t *api.Term, find finder) api.Term {
	if t.Op == api.Var {
		if v, ok := find(t.Name); ok {
			return u.value(v)
		}
	}
	return u.with(t, func(i int) api.Term { return u.term(&t.Args[i], find.under(t, i)) })
}

func (u *unloader) value(v core.Value) api.Term {
	switch v := v.(type) {
	case *core.Pair:
		cons := u.made(api.Term{Op: api.Prim, Name: "cons"})
		first, second, _ := v.Halves()
		cons.Args = plain.Each([]core.Value{first, second}, u.value)
		return cons
	case *function:
		return u.term(v.Term, v.env.find)
	case *rest:
		return u.rest(v.frames)
	}
	d, _ := v.Datum()
	return u.made(api.Term{Op: api.Quote, Data: plain.Copy(d)})
}

// rest returns the function that puts its argument inside of frames.
func (u *unloader) rest(frames []*frame) api.Term {
	f := u.made(api.Term{Op: api.Fn, Names: []string{api.RuleHole}})
	inside := u.made(api.Term{Op: api.Var, Name: api.RuleHole})
	for _, f := range slices.Backward(frames) {
		inside = u.around(f, inside)
	}
	f.Args = []api.Term{inside}
	return f
}

// around returns a frame with something inside.
func (u *unloader) around(f *frame, inside api.Term) api.Term {
	find := finder(f.env.find)
	here := len(f.done)
	return u.with(f.Term, func(i int) api.Term {
		switch {
		case i < here:
			return u.value(f.done[i])
		case i == here:
			return inside
		}
		return u.term(&f.Args[i], find.under(f.Term, i))
	})
}
