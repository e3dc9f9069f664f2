package machine

import (
	"caracole/api"
	"caracole/core"
	"caracole/guard"
)

// turn is what is done with terms of some sort.
type turn struct {
	enter func()         // the term is evaluated
	leave func(f *frame) // all its early arguments are known
}

// machine goes from state to state.
type machine struct {
	state
	turns   map[int]turn // by the Op of terms
	trace   []int        // the Op that each step was about
	deepest int          // the greatest number of frames that there were in a state
}

func newMachine() *machine {
	m := &machine{}
	m.turns = map[int]turn{
		api.Quote:  {enter: m.quote},
		api.Var:    {enter: m.variable},
		api.Fn:     {enter: m.function},
		api.Rec:    {enter: m.function},
		api.Marks:  {enter: m.marks},
		api.App:    {enter: m.open, leave: m.app},
		api.Apply:  {enter: m.open, leave: m.apply},
		api.If:     {enter: m.open, leave: m.choose},
		api.Let:    {enter: m.open, leave: m.local},
		api.Prim:   {enter: m.open, leave: m.operate},
		api.Handle: {enter: m.open, leave: m.pass},
		api.Mark:   {enter: m.open, leave: m.pass},
		api.Emit:   {enter: m.open, leave: m.emit},
		api.Signal: {enter: m.open, leave: m.signal},
	}
	return m
}

// start returns the machine that is to evaluate a closed term.
func start(t *api.Term) *machine {
	m := newMachine()
	m.evaluate(t, nil)
	return m
}

// run does so many steps, or fewer if it is over then. A step that fails is the last one.
func (m *machine) run(most int) {
	_, e := guard.Call(func() int { return m.steps(most) })
	if e != api.OK {
		m.fail(e)
	}
}

func (m *machine) steps(most int) int {
	done := 0
next:
	if done < most && !m.over() {
		m.step()
		m.deepest = max(m.deepest, len(m.stack.items))
		done++
		goto next
	}
	return done
}

func (m *machine) step() {
	if m.mode == found {
		m.back(m.stack.pop())
		return
	}
	m.note(m.term).enter()
}

// back goes on with a frame whose next argument was found.
func (m *machine) back(f *frame) {
	t := m.note(f.Term)
	f = f.and(m.val)
	if f.waits() {
		m.stack.push(f)
		m.evaluate(&f.Args[len(f.done)], f.env)
		return
	}
	t.leave(f)
}

// note writes down what the step is about, and returns what is done with it.
func (m *machine) note(t *api.Term) turn {
	turn, ok := m.turns[t.Op]
	if !ok {
		guard.Fail(api.ErrStuck)
	}
	m.trace = append(m.trace, t.Op)
	return turn
}

func (m *machine) quote() { m.find(core.NewData(&m.term.Data)) }

func (m *machine) variable() {
	v, ok := m.env.find(m.term.Name)
	if !ok {
		guard.Fail(api.ErrName)
	}
	m.find(v)
}

func (m *machine) function() { m.find(&function{Term: m.term, env: m.env}) }

func (m *machine) marks() {
	var l []core.Value
	for _, f := range m.stack.downward() {
		if f.around(api.Mark) {
			l = append(l, f.done[0])
		}
	}
	m.find(core.List(l...))
}

func (m *machine) open() {
	m.stack.push(&frame{Term: m.term, env: m.env})
	m.evaluate(&m.term.Args[0], m.env)
}

func (m *machine) app(f *frame) { m.call(f.done[0], f.done[1:]...) }

func (m *machine) apply(f *frame) {
	args := core.Elements(f.done[1])
	m.call(f.done[0], args...)
}

func (m *machine) choose(f *frame) {
	arg := 1
	if core.IsFalse(f.done[0]) {
		arg = 2
	}
	m.evaluate(&f.Args[arg], f.env)
}

func (m *machine) local(f *frame) {
	m.evaluate(&f.Args[1], f.env.with(bind{name: f.Name, val: f.done[0]}))
}

func (m *machine) operate(f *frame) { m.find(core.Operate(f.Name, f.done...)) }

func (m *machine) pass(f *frame) { m.find(f.done[1]) }

func (m *machine) emit(f *frame) {
	m.out = append(m.out, f.done[0])
	m.find(f.done[0])
}

func (m *machine) signal(f *frame) {
	at := m.handler()
	handler := m.stack.items[at].done[0]
	m.call(handler, f.done[0], &rest{frames: m.stack.cut(at)})
}

// call calls a value with others.
func (m *machine) call(f core.Value, args ...core.Value) {
	if r, ok := f.(*rest); ok {
		core.NeedArgs(1, len(args))
		m.stack.push(r.frames...)
		m.find(args[0])
		return
	}
	g, ok := f.(*function)
	core.NeedKind(ok)
	core.NeedArgs(len(g.Names), len(args))
	m.evaluate(&g.Args[0], g.inside(args))
}

// inside returns what names are in the body of a function that is called.
func (f *function) inside(args []core.Value) *scope {
	env := f.env
	if f.Op == api.Rec {
		env = env.with(bind{name: f.Name, val: f})
	}
	for i, name := range f.Names {
		env = env.with(bind{name: name, val: args[i]})
	}
	return env
}
