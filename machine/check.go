package machine

import (
	"slices"

	"caracole/api"
	"caracole/core"
	"caracole/datum"
	"caracole/guard"
	"caracole/plain"
	"caracole/side"
	"caracole/term"
)

// valid fails with the first error of a state.
func valid(s *api.MachineState) {
	pieces := newScale()
	pieces.state(s)
	look := func(part func(*checker)) api.Errno {
		_, e := guard.Call(func() int {
			part(&checker{MachineState: s, names: names{}})
			return 0
		})
		return e
	}
	for _, e := range side.BySide([]func(*checker){(*checker).head, (*checker).stack, (*checker).output}, look) {
		need(e == api.OK)
	}
}

// checker looks at parts of a state, and fails with any error if something is not as it has to be.
type checker struct {
	*api.MachineState
	names
}

func need(is bool) {
	if !is {
		guard.Fail(api.ErrForm)
	}
}

// head looks at all of a state but for its frames, and what was put out.
func (c *checker) head() {
	other := *c.MachineState
	other.Out, other.Mode = nil, 0
	switch {
	case c.Err != api.OK:
		need(c.Mode == api.MachineEval && c.Err >= api.ErrForm && c.Err <= api.ErrStuck)
		other.Err = api.OK
		need(len(c.Stack) == 0)
	case c.Mode == api.MachineBack:
		c.value(&c.Val)
		other.Val = api.MachineVal{}
	default:
		need(c.Mode == api.MachineEval)
		c.binds(c.Env, span{&c.Term, whole})
		other.Term, other.Env = api.Term{}, nil
	}
	need(other.Err == api.OK && isNoTerm(&other.Term) && len(other.Env) == 0 && isNoValue(&other.Val))
}

func isNoTerm(t *api.Term) bool { return plain.EqualTerms(*t, api.Term{}) }

func isNoValue(v *api.MachineVal) bool {
	return v.Kind == 0 && plain.Equal(v.Data, api.Datum{}) && len(v.Parts) == 0 && isNoTerm(&v.Fun) && len(v.Env) == 0 && len(v.Stack) == 0
}

// value looks at a value, and returns of how many pieces it consists.
func (c *checker) value(v *api.MachineVal) int {
	other := *v
	other.Kind = 0
	pieces := 1
	switch v.Kind {
	case api.MachineData:
		guard.Check(datum.Check(v.Data))
		pieces = plain.Pieces(v.Data)
		other.Data = api.Datum{}
	case api.MachinePair:
		pieces = c.pair(v.Parts)
		other.Parts = nil
	case api.MachineFn:
		need(v.Fun.Op == api.Fn || v.Fun.Op == api.Rec)
		c.binds(v.Env, span{&v.Fun, whole})
		other.Fun, other.Env = api.Term{}, nil
	case api.MachineRest:
		need(len(v.Stack) > 0 && v.Stack[0].Term.Op == api.Handle && len(v.Stack[0].Done) == 1)
		c.frames(v.Stack)
		other.Stack = nil
	default:
		need(false)
	}
	need(isNoValue(&other))
	return pieces
}

func (c *checker) pair(parts []api.MachineVal) int {
	need(len(parts) == 2)
	need(parts[0].Kind != api.MachineData || parts[1].Kind != api.MachineData)
	pieces := 1
	for i := range parts {
		pieces += c.value(&parts[i])
	}
	core.Limit(pieces)
	return pieces
}

// binds looks whether a list says just what the free names of a span are, of which all terms have to be valid.
func (c *checker) binds(l []api.MachineBind, s span) {
	known := plain.Each(l, func(b api.MachineBind) string { return b.Name })
	need(slices.Equal(known, c.in(s)))
	for i := range l {
		c.value(&l[i].Val)
	}
}

func (c *checker) frames(l []api.MachineFrame) {
	for i := range l {
		f := &l[i]
		guard.Check(term.Check(f.Term))
		need(len(f.Done) < core.Early(f.Term.Op, len(f.Term.Args)))
		for k := range f.Done {
			c.value(&f.Done[k])
		}
		c.binds(f.Env, span{&f.Term, len(f.Done) + 1})
	}
}

func (c *checker) stack() { c.frames(c.Stack) }

func (c *checker) output() {
	for _, d := range c.Out {
		guard.Check(datum.Check(d))
	}
}
