package machine

import (
	"caracole/api"
	"caracole/core"
	"caracole/plain"
)

// resumed returns the machine in a valid state, with which it shares memory.
func resumed(s *api.MachineState) *machine {
	m := newMachine()
	m.stack.push(framesOf(s.Stack)...)
	for i := range s.Out {
		m.out = append(m.out, core.NewData(&s.Out[i]))
	}
	switch {
	case s.Err != api.OK:
		m.fail(s.Err)
	case s.Mode == api.MachineBack:
		m.find(valueOf(s.Val))
	default:
		m.evaluate(&s.Term, scopeOf(s.Env))
	}
	return m
}

func valueOf(v api.MachineVal) core.Value {
	switch v.Kind {
	case api.MachinePair:
		first := valueOf(v.Parts[0])
		return core.Join(first, valueOf(v.Parts[1]))
	case api.MachineFn:
		return &function{Term: &v.Fun, env: scopeOf(v.Env)}
	case api.MachineRest:
		return &rest{frames: framesOf(v.Stack)}
	}
	return core.NewData(&v.Data)
}

func scopeOf(l []api.MachineBind) *scope {
	var env *scope
	return env.with(plain.Each(l, func(b api.MachineBind) bind { return bind{name: b.Name, val: valueOf(b.Val)} })...)
}

func framesOf(l []api.MachineFrame) []*frame {
	return plain.Each(l, func(f api.MachineFrame) *frame {
		return &frame{Term: &f.Term, done: plain.Each(f.Done, valueOf), env: scopeOf(f.Env)}
	})
}
