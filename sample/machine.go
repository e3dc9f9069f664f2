package sample

import (
	"maps"
	"slices"

	"caracole/api"
)

// Free are the names that are free in some terms, ascending, written apart from package term.
func Free(all ...api.Term) []string {
	free := map[string]bool{}
	for _, t := range all {
		addFree(t, nil, free)
	}
	return slices.Sorted(maps.Keys(free))
}

func addFree(t api.Term, bound []string, free map[string]bool) {
	if t.Op == api.Var && !slices.Contains(bound, t.Name) {
		free[t.Name] = true
	}
	inside := append(slices.Clone(bound), t.Names...)
	if t.Op == api.Rec || t.Op == api.Let {
		inside = append(inside, t.Name)
	}
	for i, a := range t.Args {
		if t.Op == api.Let && i == 0 {
			addFree(a, bound, free)
			continue
		}
		addFree(a, inside, free)
	}
}

// Early is how many arguments of a term are evaluated before its own effect, written apart from the layers.
func Early(t api.Term) int {
	switch t.Op {
	case api.If, api.Let:
		return 1
	case api.Quote, api.Var, api.Fn, api.Rec, api.Marks:
		return 0
	}
	return len(t.Args)
}

// Behind are the names that are free in the arguments of a frame behind the one that is being evaluated.
func Behind(f api.MachineFrame) []string {
	at := len(f.Done) + 1
	free := Free(f.Term.Args[at:]...)
	if f.Term.Op == api.Let {
		free = slices.DeleteFunc(free, func(name string) bool { return name == f.Term.Name })
	}
	return free
}

// Val is a valid value of the machine, with values in one another up to a depth.
func (r *Random) Val(depth int) api.MachineVal {
	n := r.Below(8)
	if depth == 0 || n < 3 {
		return api.MachineVal{Data: r.Datum(2)}
	}
	switch n {
	case 3:
		return r.pair(depth)
	case 4:
		return r.rest(depth)
	}
	return r.closure(depth)
}

// pair has at least one part that is no datum.
func (r *Random) pair(depth int) api.MachineVal {
	parts := []api.MachineVal{r.Val(depth - 1), r.closure(depth)}
	if n := r.Below(2); n == 1 {
		slices.Reverse(parts)
	}
	return api.MachineVal{Kind: api.MachinePair, Parts: parts}
}

func (r *Random) closure(depth int) api.MachineVal {
	t := api.Term{Op: api.Fn, Names: r.Names(2), Args: []api.Term{r.Term(2)}}
	if r.Below(3) == 0 {
		t.Op, t.Name = api.Rec, "rec1"
	}
	return api.MachineVal{Kind: api.MachineFn, Fun: t, Env: r.binds(Free(t), depth)}
}

func (r *Random) rest(depth int) api.MachineVal {
	handle := api.Term{Op: api.Handle, Args: []api.Term{r.Term(1), r.Term(1)}}
	first := api.MachineFrame{Term: handle, Done: []api.MachineVal{r.Val(depth - 1)}}
	return api.MachineVal{Kind: api.MachineRest, Stack: append([]api.MachineFrame{first}, r.frames(depth-1, 3)...)}
}

func (r *Random) binds(names []string, depth int) []api.MachineBind {
	var l []api.MachineBind
	for _, name := range names {
		l = append(l, api.MachineBind{Name: name, Val: r.Val(max(depth-1, 0))})
	}
	return l
}

// frames are fewer than so many valid frames.
func (r *Random) frames(depth, below int) []api.MachineFrame {
	var l []api.MachineFrame
	for range r.Below(below) {
		t := r.Term(2)
		for Early(t) == 0 {
			t = r.Term(2)
		}
		f := api.MachineFrame{Term: t}
		for range r.Below(Early(t)) {
			f.Done = append(f.Done, r.Val(max(depth-1, 0)))
		}
		f.Env = r.binds(Behind(f), depth)
		l = append(l, f)
	}
	return l
}

// State is a valid state of the machine. No run may come to it.
func (r *Random) State(depth int) api.MachineState {
	var s api.MachineState
	for range r.Below(3) {
		s.Out = append(s.Out, r.Datum(1))
	}
	if n := r.Below(20); n == 0 {
		s.Err = api.Errno(1 + r.Below(16))
		return s
	}
	s.Stack = r.frames(depth, 6)
	if n := r.Below(2); n == 0 {
		s.Mode, s.Val = api.MachineBack, r.Val(depth)
		return s
	}
	s.Term = r.Term(3)
	s.Env = r.binds(Free(s.Term), depth)
	return s
}

// WildState changes some field somewhere in a state, which then may be not valid.
func (r *Random) WildState(s *api.MachineState) {
	switch r.Below(9) {
	case 0:
		s.Mode = r.Below(5) - 1
	case 1:
		s.Err = api.Errno(r.Below(20) - 1)
	case 2:
		s.Out = append(s.Out, r.wildDatum())
	case 3:
		r.Wild(&s.Term)
	case 4:
		s.Env = r.wildBinds(s.Env)
	case 5:
		r.wildVal(&s.Val)
	default:
		s.Stack = r.wildFrames(s.Stack)
	}
}

func (r *Random) wildDatum() api.Datum {
	return []api.Datum{{Kind: 9}, Num(1), Num(api.NumMost + 1), {Parts: []api.Datum{{}}}, Sym("X"), Str("s")}[r.Below(6)]
}

func (r *Random) wildBinds(l []api.MachineBind) []api.MachineBind {
	n := r.Below(5)
	if len(l) == 0 || n == 0 {
		return append(l, api.MachineBind{Name: r.Name(), Val: r.Val(1)})
	}
	at := r.Below(len(l))
	switch n {
	case 1:
		return slices.Delete(l, at, at+1)
	case 2:
		l[at].Name = r.Name()
	case 3:
		slices.Reverse(l)
	default:
		r.wildVal(&l[at].Val)
	}
	return l
}

func (r *Random) wildVal(v *api.MachineVal) {
	switch r.Below(7) {
	case 0:
		v.Kind = r.Below(7) - 1
	case 1:
		v.Data = r.wildDatum()
	case 2:
		r.Wild(&v.Fun)
	case 3:
		v.Env = r.wildBinds(v.Env)
	case 4:
		v.Stack = r.wildFrames(v.Stack)
	default:
		v.Parts = r.wildVals(v.Parts)
	}
}

func (r *Random) wildVals(l []api.MachineVal) []api.MachineVal {
	n := r.Below(4)
	if len(l) == 0 || n == 0 {
		return append(l, r.Val(1))
	}
	if n == 1 {
		return l[1:]
	}
	r.wildVal(&l[r.Below(len(l))])
	return l
}

func (r *Random) wildFrames(l []api.MachineFrame) []api.MachineFrame {
	n := r.Below(6)
	if len(l) == 0 || n == 0 {
		return append(l, r.frames(1, 3)...)
	}
	f := &l[r.Below(len(l))]
	switch n {
	case 1:
		return l[1:]
	case 2, 3:
		r.Wild(&f.Term)
	case 4:
		f.Done = r.wildVals(f.Done)
	default:
		f.Env = r.wildBinds(f.Env)
	}
	return l
}
