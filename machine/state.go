package machine

import (
	"caracole/api"
	"caracole/core"
	"caracole/guard"
	"caracole/plain"
)

// mode says what a state is about.
type mode int

const (
	evaluating mode = iota // term is evaluated
	found                  // val was found
	failed                 // the run has ended with err
)

// state is a state at work. What its mode does not need is nil.
type state struct {
	mode  mode
	term  *api.Term
	env   *scope
	val   core.Value
	stack pile[*frame]
	out   []core.Value
	err   api.Errno
}

func (s *state) evaluate(t *api.Term, env *scope) {
	s.mode, s.term, s.env, s.val = evaluating, t, env, nil
}

func (s *state) find(v core.Value) {
	s.mode, s.term, s.env, s.val = found, nil, nil, v
}

func (s *state) fail(e api.Errno) {
	*s = state{mode: failed, out: s.out, err: e}
}

// over says whether the state is the last one of its run.
func (s *state) over() bool {
	switch s.mode {
	case found:
		if len(s.stack.items) > 0 {
			return false
		}
		fallthrough
	case failed:
		return true
	}
	return false
}

// result returns what a run ends with, if it has to end here.
func (s *state) result() api.Result {
	r := api.Result{Out: plain.Each(s.out, core.Show), Err: s.err}
	switch {
	case !s.over():
		r.Err = api.ErrLimit
	case s.mode == found:
		r.Value = core.Show(s.val)
	}
	return r
}

// handler returns where the topmost frame is that is told of signals, and fails if there is none.
func (s *state) handler() int {
	const nowhere = -1
	where := nowhere
search:
	for at, f := range s.stack.downward() {
		switch {
		case f.around(api.Handle):
			where = at
			break search
		}
	}
	if where == nowhere {
		guard.Fail(api.ErrNone)
	}
	return where
}
