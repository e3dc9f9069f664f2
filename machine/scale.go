package machine

import (
	"caracole/api"
	"caracole/guard"
)

// scale weighs what a state consists of, and fails as soon as there are too many pieces.
type scale struct{ left int }

func newScale() scale { return scale{left: api.MachineSize} }

func (s *scale) add(pieces int) {
	s.left -= pieces
	if s.left < 0 {
		guard.Fail(api.ErrLarge)
	}
}

func (s *scale) datum(d *api.Datum) {
	s.add(1)
	for i := range d.Parts {
		s.datum(&d.Parts[i])
	}
}

func (s *scale) term(t *api.Term) {
	s.add(1 + len(t.Names))
	s.datum(&t.Data)
	for i := range t.Args {
		s.term(&t.Args[i])
	}
}

func (s *scale) value(v *api.MachineVal) {
	s.add(1)
	s.datum(&v.Data)
	s.values(v.Parts)
	s.term(&v.Fun)
	s.binds(v.Env)
	s.frames(v.Stack)
}

func (s *scale) values(l []api.MachineVal) {
	for i := range l {
		s.value(&l[i])
	}
}

func (s *scale) binds(l []api.MachineBind) {
	for i := range l {
		s.add(1)
		s.value(&l[i].Val)
	}
}

func (s *scale) frames(l []api.MachineFrame) {
	for i := range l {
		s.add(1)
		s.term(&l[i].Term)
		s.values(l[i].Done)
		s.binds(l[i].Env)
	}
}

func (s *scale) state(x *api.MachineState) {
	s.add(1)
	s.term(&x.Term)
	s.binds(x.Env)
	s.value(&x.Val)
	s.frames(x.Stack)
	for i := range x.Out {
		s.datum(&x.Out[i])
	}
}
