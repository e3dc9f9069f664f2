package machine_test

import (
	"strconv"
	"strings"
	"testing"

	"caracole/api"
	"caracole/machine"
	"caracole/rule"
	"caracole/sample"
)

var (
	num, sym, wide, zeros       = sample.Num, sample.Sym, sample.Wide, sample.Zeros
	show, read                  = sample.Show, sample.Read
	parse, text, quote, nameVar = sample.Term, sample.TermText, sample.Quote, sample.Var
	sameTerm, sameState         = sample.SameTerm, sample.SameState
	stateText, size, terms      = sample.StateText, sample.TermSize, sample.Bush
	call, prim, function, let   = sample.Call, sample.Prim, sample.Function, sample.Let
	toldOr, told, toldInt       = sample.Told, sample.ToldTerm, sample.ToldInt
	toldResult, toldRun         = sample.ToldResult, sample.ToldRun
	toldBool                    = sample.ToldBool
)

func must[T any](t *testing.T) func(x T, e api.Errno) T {
	return func(x T, e api.Errno) T {
		t.Helper()
		if e != api.OK {
			t.Error(e)
		}
		return x
	}
}

func toldState(s api.MachineState, e api.Errno) string { return toldOr(stateText(s), e) }

func toldGo(s api.MachineState, steps int, e api.Errno) string {
	return toldOr(stateText(s)+" in "+strconv.Itoa(steps), e)
}

func toldTurns(l []int, e api.Errno) string {
	var words []string
	for _, n := range l {
		words = append(words, []string{"quote", "var", "fn", "app", "if", "let", "rec", "prim", "apply", "handle", "signal", "mark", "marks", "emit"}[n])
	}
	return toldOr(strings.Join(words, " "), e)
}

// ofTerm is what all functions of a term return.
func ofTerm(t api.Term, most int) []string {
	return []string{toldState(machine.Load(t)), toldRun(machine.Run(t, most)), toldInt(machine.Deep(t, most)), toldTurns(machine.Turns(t, most))}
}

// ofState is what all functions of a state return.
func ofState(s api.MachineState, most int) []string {
	return []string{toldOr("", machine.Check(s)), toldState(machine.Step(s)), toldGo(machine.Go(s, most)), toldBool(machine.Over(s)), toldResult(machine.Result(s)), told(machine.Unload(s))}
}

// programs are many programs by chance, and what becomes of some of them by the rules.
func programs(seed uint64, n int) []api.Term { return sample.Programs(seed, n, 300, rule.After) }

// loaded is the state of a closed term after some steps.
func loaded(t api.Term, steps int) api.MachineState {
	s, e := machine.Load(t)
	if e != api.OK {
		panic(text(t))
	}
	s, _, e = machine.Go(s, steps)
	if e != api.OK {
		panic(text(t))
	}
	return s
}

// states are many valid states: of runs of programs, and by chance.
func states(seed uint64, n int) []api.MachineState {
	r := sample.NewRandom(seed)
	var l []api.MachineState
	for _, x := range programs(seed+1, n) {
		s, e := machine.Load(x)
		if e == api.OK {
			s, _, e = machine.Go(s, r.Below(80))
		}
		if e == api.OK {
			l = append(l, s)
		}
		s = r.State(r.Below(4))
		if pieces(s) <= api.MachineSize {
			l = append(l, s)
		}
	}
	return l
}

// val is what a program ends with, as a value of the machine.
func val(s string) api.MachineVal { return loaded(parse(s), 999).Val }
