package machine

import (
	"caracole/api"
	"caracole/core"
	"caracole/plain"
)

// writer writes what is at work as plain data that shares no memory with it, and fails as soon as these are too large: what is shared at work may be much larger as data.
type writer struct {
	scale
	names
}

// written returns a state as plain data.
func (s *state) written() api.MachineState {
	w := &writer{scale: newScale(), names: names{}}
	w.add(1)
	out := api.MachineState{Err: s.err}
	switch s.mode {
	case evaluating:
		out.Term = *s.term
		out.Env = w.binds(span{s.term, whole}, s.env)
	case found:
		out.Mode = api.MachineBack
	}
	out.Term = w.term(out.Term)
	out.Val = w.value(s.val)
	out.Stack = plain.Each(s.stack.items, w.frame)
	out.Out = plain.Each(s.out, w.shown)
	return out
}

func (w *writer) datum(d api.Datum) api.Datum {
	w.scale.datum(&d)
	return plain.Copy(d)
}

func (w *writer) term(t api.Term) api.Term {
	w.scale.term(&t)
	return plain.CopyTerm(t)
}

// value writes a value, or none.
func (w *writer) value(v core.Value) api.MachineVal {
	w.add(1)
	var out api.MachineVal
	switch v := v.(type) {
	case core.Data:
		out.Data, _ = v.Datum()
	case *core.Pair:
		out.Kind = api.MachinePair
		first, second, _ := v.Halves()
		out.Parts = plain.Each([]core.Value{first, second}, w.value)
	case *function:
		out.Kind = api.MachineFn
		out.Fun = *v.Term
		out.Env = w.binds(span{v.Term, whole}, v.env)
	case *rest:
		out.Kind = api.MachineRest
		out.Stack = plain.Each(v.frames, w.frame)
	}
	out.Data, out.Fun = w.datum(out.Data), w.term(out.Fun)
	return out
}

// binds writes what the free names of a span are.
func (w *writer) binds(s span, env *scope) []api.MachineBind {
	return plain.Each(w.in(s), func(name string) api.MachineBind {
		w.add(1)
		v, _ := env.find(name)
		return api.MachineBind{Name: name, Val: w.value(v)}
	})
}

func (w *writer) frame(f *frame) api.MachineFrame {
	w.add(1)
	out := api.MachineFrame{Term: w.term(*f.Term), Done: plain.Each(f.done, w.value)}
	out.Env = w.binds(span{f.Term, len(f.done) + 1}, f.env)
	return out
}

// shown writes what a value is shown as.
func (w *writer) shown(v core.Value) api.Datum {
	w.add(v.Pieces())
	return core.Show(v)
}
