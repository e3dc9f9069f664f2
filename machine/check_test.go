package machine_test

import (
	"testing"

	"caracole/api"
	"caracole/machine"
	"caracole/sample"
)

// bindsOf are binds with the names and the values that stand one behind the other.
func bindsOf(l ...string) []api.MachineBind {
	var out []api.MachineBind
	for i := 0; i < len(l); i += 2 {
		out = append(out, api.MachineBind{Name: l[i], Val: val(l[i+1])})
	}
	return out
}

// frameOf is a frame with values.
func frameOf(t string, env []api.MachineBind, done ...string) api.MachineFrame {
	f := api.MachineFrame{Term: parse(t), Env: env}
	for _, x := range done {
		f.Done = append(f.Done, val(x))
	}
	return f
}

func evalOf(t string, env []api.MachineBind, stack ...api.MachineFrame) api.MachineState {
	return api.MachineState{Term: parse(t), Env: env, Stack: stack}
}

func backOf(v api.MachineVal, stack ...api.MachineFrame) api.MachineState {
	return api.MachineState{Mode: api.MachineBack, Val: v, Stack: stack}
}

func pairOf(parts ...api.MachineVal) api.MachineVal {
	return api.MachineVal{Kind: api.MachinePair, Parts: parts}
}

func fnOf(t string, env ...api.MachineBind) api.MachineVal {
	return api.MachineVal{Kind: api.MachineFn, Fun: parse(t), Env: env}
}

func restOf(stack ...api.MachineFrame) api.MachineVal {
	return api.MachineVal{Kind: api.MachineRest, Stack: stack}
}

// TestValid: states that are valid, as far as one can see what is needed of each field (P8.1).
func TestValid(t *testing.T) {
	one, f := val("1"), fnOf("(fn () 1)")
	handle := frameOf("(handle x 2)", nil, "5")
	for i, s := range []api.MachineState{
		{}, {Out: []api.Datum{num(1), read("(a . b)")}}, {Term: api.Term{Args: []api.Term{}}, Stack: []api.MachineFrame{}}, {Err: 1}, {Err: 16, Out: []api.Datum{num(1)}}, backOf(one), backOf(f), backOf(api.MachineVal{}),
		evalOf("x", bindsOf("x", "1")), evalOf("(f (fn (x) (x y)))", bindsOf("f", "(fn () 1)", "y", "2")), evalOf("(let x x (let y x y))", bindsOf("x", "3")), evalOf("(marks)", nil),
		backOf(pairOf(one, f)), backOf(pairOf(f, one)), backOf(pairOf(f, f)), backOf(pairOf(pairOf(f, one), one)), backOf(pairOf(one, restOf(handle))), backOf(pairOf(f, api.MachineVal{Data: wide(1997)})),
		backOf(fnOf("(rec f (x) (f y))", bindsOf("y", "(fn () 1)")...)), backOf(restOf(handle)), backOf(restOf(handle, frameOf("(if x y z)", bindsOf("y", "1", "z", "2")))), backOf(restOf(handle, handle)),
		evalOf("1", nil, frameOf("(let x y (x z))", bindsOf("z", "1"))), evalOf("1", nil, frameOf("(let x y x)", nil)), evalOf("1", nil, frameOf("(f a b)", bindsOf("a", "1", "b", "2"))), evalOf("1", nil, frameOf("(f a b)", bindsOf("b", "2"), "1")), evalOf("1", nil, frameOf("(f a b)", nil, "1", "2")),
		evalOf("1", nil, frameOf("(f)", nil)), evalOf("1", nil, frameOf("(emit x)", nil)), evalOf("1", nil, frameOf("(signal x)", nil)), evalOf("1", nil, frameOf("(apply x y)", nil, "1")), evalOf("1", nil, frameOf("(mark x y)", bindsOf("y", "1"))), evalOf("1", nil, frameOf("(if x (fn (y) y) (y x))", bindsOf("x", "1", "y", "2"))), evalOf("1", nil, frameOf("(cons x (fn (x) z))", bindsOf("z", "1"))),
	} {
		if e := machine.Check(s); e != api.OK || checkApart(s) != api.OK {
			t.Error(i, stateText(s), e)
		}
	}
}

// TestNotValid: states that are not valid (P8.1).
func TestNotValid(t *testing.T) {
	one, f := val("1"), fnOf("(fn () 1)")
	bad := api.Term{Op: 99}
	with := func(v api.MachineVal, change func(*api.MachineVal)) api.MachineState {
		change(&v)
		return backOf(v)
	}
	handle := frameOf("(handle 1 2)", nil, "5")
	for i, s := range []api.MachineState{
		{Mode: 2}, {Mode: -1}, {Err: 17}, {Err: -1}, {Err: 4, Mode: api.MachineBack}, {Err: 4, Term: parse("1")}, {Err: 4, Env: bindsOf("x", "1")}, {Err: 4, Val: one}, {Err: 4, Stack: []api.MachineFrame{frameOf("(f)", nil)}}, {Err: 4, Out: []api.Datum{{Kind: 9}}}, {Out: []api.Datum{num(1), num(api.NumMost + 1)}}, {Out: []api.Datum{wide(2000)}},
		{Term: bad}, {Term: api.Term{Names: []string{"x"}}}, {Term: terms(2001)}, {Term: parse("1"), Val: one}, {Val: api.MachineVal{Kind: 1}}, {Mode: api.MachineBack, Term: parse("1"), Val: one}, {Mode: api.MachineBack, Env: bindsOf("x", "1")},
		evalOf("x", nil), evalOf("x", bindsOf("y", "1")), evalOf("1", bindsOf("x", "1")), evalOf("(x y)", bindsOf("y", "1", "x", "2")), evalOf("(x y)", bindsOf("x", "1")), evalOf("x", bindsOf("x", "1", "x", "1")), evalOf("(x y)", bindsOf("x", "1", "x", "1", "y", "1")), evalOf("(let x 1 x)", bindsOf("x", "1")), {Term: nameVar("x"), Env: []api.MachineBind{{Name: "x", Val: api.MachineVal{Kind: 9}}}},
		backOf(api.MachineVal{Kind: 4}), backOf(api.MachineVal{Kind: -1}), backOf(api.MachineVal{Data: api.Datum{Kind: 9}}), backOf(api.MachineVal{Data: wide(2000)}), backOf(pairOf()), backOf(pairOf(f)), backOf(pairOf(one, one)), backOf(pairOf(f, f, f)), backOf(pairOf(f, api.MachineVal{Data: wide(1998)})), backOf(pairOf(f, pairOf(one, one))), backOf(pairOf(f, api.MachineVal{Kind: 7})),
		backOf(fnOf("1")), backOf(fnOf("(f)", bindsOf("f", "1")...)), backOf(fnOf("(fn () x)")), backOf(fnOf("(fn (x) x)", bindsOf("x", "1")...)), backOf(fnOf("(rec f () f)", bindsOf("f", "1")...)), backOf(api.MachineVal{Kind: api.MachineFn, Fun: api.Term{Op: api.Fn}}), backOf(api.MachineVal{Kind: api.MachineFn, Fun: api.Term{Op: api.Fn, Args: []api.Term{bad}}}),
		backOf(restOf()), backOf(restOf(frameOf("(handle 1 2)", nil))), backOf(restOf(frameOf("(mark 1 2)", nil, "5"))), backOf(restOf(frameOf("(handle 1 2)", nil, "5", "6"))), backOf(restOf(frameOf("(emit 1)", nil), handle)), backOf(restOf(handle, frameOf("(f)", nil, "1"))),
		evalOf("1", nil, frameOf("1", nil)), evalOf("1", nil, frameOf("x", nil)), evalOf("1", nil, frameOf("(fn () 1)", nil)), evalOf("1", nil, frameOf("(rec f () 1)", nil)), evalOf("1", nil, frameOf("(marks)", nil)), evalOf("1", nil, frameOf("(if 1 2 3)", nil, "1")), evalOf("1", nil, frameOf("(let x 1 2)", nil, "1")), evalOf("1", nil, frameOf("(f 1)", nil, "1", "2")), evalOf("1", nil, frameOf("(handle 1 2)", nil, "1", "2")), evalOf("1", nil, api.MachineFrame{Term: bad}), evalOf("1", nil, api.MachineFrame{Term: api.Term{Op: api.Emit}}),
		evalOf("1", nil, frameOf("(f a b)", bindsOf("f", "1", "a", "1", "b", "1"))), evalOf("1", nil, frameOf("(f a b)", bindsOf("a", "1", "b", "1"), "1")), evalOf("1", nil, frameOf("(f a b)", bindsOf("b", "1", "a", "1"))), evalOf("1", nil, frameOf("(f a b)", bindsOf("a", "1"))), evalOf("1", nil, frameOf("(let x y (x z))", bindsOf("x", "1", "z", "1"))), evalOf("1", nil, frameOf("(let x y (x z))", nil)), evalOf("1", nil, frameOf("(if x y z)", bindsOf("y", "1"))), evalOf("1", nil, api.MachineFrame{Term: parse("(f a)"), Env: []api.MachineBind{{Name: "a", Val: pairOf()}}}), evalOf("1", nil, api.MachineFrame{Term: parse("(f 1)"), Done: []api.MachineVal{pairOf()}}),
		with(one, func(v *api.MachineVal) { v.Parts = make([]api.MachineVal, 1) }), with(one, func(v *api.MachineVal) { v.Fun = parse("1") }), with(one, func(v *api.MachineVal) { v.Env = bindsOf("x", "1") }), with(one, func(v *api.MachineVal) { v.Stack = []api.MachineFrame{handle} }),
		with(f, func(v *api.MachineVal) { v.Data = num(1) }), with(f, func(v *api.MachineVal) { v.Parts = make([]api.MachineVal, 1) }), with(f, func(v *api.MachineVal) { v.Stack = []api.MachineFrame{handle} }),
		with(pairOf(f, f), func(v *api.MachineVal) { v.Data = num(1) }), with(pairOf(f, f), func(v *api.MachineVal) { v.Fun = parse("1") }), with(pairOf(f, f), func(v *api.MachineVal) { v.Env = bindsOf("x", "1") }), with(pairOf(f, f), func(v *api.MachineVal) { v.Stack = []api.MachineFrame{handle} }),
		with(restOf(handle), func(v *api.MachineVal) { v.Data = num(1) }), with(restOf(handle), func(v *api.MachineVal) { v.Parts = make([]api.MachineVal, 1) }), with(restOf(handle), func(v *api.MachineVal) { v.Fun = parse("1") }), with(restOf(handle), func(v *api.MachineVal) { v.Env = bindsOf("x", "1") }),
	} {
		if e := machine.Check(s); e != api.ErrForm || checkApart(s) != api.ErrForm {
			t.Error(i, stateText(s), e, checkApart(s))
		}
	}
}

// TestFields: a field that a state does not need is seen wherever it is (P8.1).
func TestFields(t *testing.T) {
	places := map[string]func(v api.MachineVal) api.MachineState{
		"val": func(v api.MachineVal) api.MachineState { return backOf(v) },
		"env": func(v api.MachineVal) api.MachineState {
			return api.MachineState{Term: nameVar("x"), Env: []api.MachineBind{{Name: "x", Val: v}}}
		},
		"part": func(v api.MachineVal) api.MachineState { return backOf(pairOf(v, fnOf("(fn () 1)"))) },
		"fn": func(v api.MachineVal) api.MachineState {
			return backOf(fnOf("(fn () x)", api.MachineBind{Name: "x", Val: v}))
		},
		"done": func(v api.MachineVal) api.MachineState {
			return evalOf("1", nil, api.MachineFrame{Term: parse("(cons 1 2)"), Done: []api.MachineVal{v}})
		},
		"frame": func(v api.MachineVal) api.MachineState {
			return evalOf("1", nil, api.MachineFrame{Term: parse("(cons 1 x)"), Env: []api.MachineBind{{Name: "x", Val: v}}})
		},
		"rest": func(v api.MachineVal) api.MachineState {
			return backOf(restOf(api.MachineFrame{Term: parse("(handle 1 2)"), Done: []api.MachineVal{v}}))
		},
	}
	r := sample.NewRandom(7)
	for range 300 {
		v := r.Val(2)
		for what, place := range places {
			if s := place(v); machine.Check(s) != api.OK {
				t.Error(what, sample.ValText(v))
			}
			wild := sample.CopyState(place(v))
			r.WildState(&wild)
			if machine.Check(wild) != checkApart(wild) {
				t.Error(what, stateText(wild), machine.Check(wild))
			}
		}
		bad := api.MachineVal{Data: num(1), Parts: []api.MachineVal{v}}
		for what, place := range places {
			if e := machine.Check(place(bad)); e != api.ErrForm {
				t.Error(what, sample.ValText(bad), e)
			}
		}
	}
}
