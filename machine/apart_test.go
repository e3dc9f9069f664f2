package machine_test

import (
	"slices"
	"testing"

	"caracole/api"
	"caracole/machine"
	"caracole/sample"
	"caracole/term"
)

// What the chapter says under 'Terms', written apart from the package: on states as they are.

// pieces is of how many pieces a state consists.
func pieces(s api.MachineState) int {
	n := 1 + termPieces(s.Term) + valPieces(s.Val) + bindPieces(s.Env) + framePieces(s.Stack)
	for _, d := range s.Out {
		n += dataPieces(d)
	}
	return n
}

func dataPieces(d api.Datum) int { return len(sample.Paths(d)) }

func termPieces(t api.Term) int {
	n := 1 + len(t.Names) + dataPieces(t.Data)
	for _, a := range t.Args {
		n += termPieces(a)
	}
	return n
}

func valPieces(v api.MachineVal) int {
	n := 1 + dataPieces(v.Data) + termPieces(v.Fun) + bindPieces(v.Env) + framePieces(v.Stack)
	for _, p := range v.Parts {
		n += valPieces(p)
	}
	return n
}

func bindPieces(l []api.MachineBind) int {
	n := len(l)
	for _, b := range l {
		n += valPieces(b.Val)
	}
	return n
}

func framePieces(l []api.MachineFrame) int {
	n := len(l)
	for _, f := range l {
		n += termPieces(f.Term) + bindPieces(f.Env)
		for _, v := range f.Done {
			n += valPieces(v)
		}
	}
	return n
}

// checkApart is the first error of a state.
func checkApart(s api.MachineState) api.Errno {
	var noVal api.MachineVal
	head := s.Mode == api.MachineEval && s.Err == api.OK && sample.SameVal(s.Val, noVal) && term.Check(s.Term) == api.OK && areBinds(s.Env, sample.Free(s.Term))
	if s.Mode == api.MachineBack {
		head = s.Err == api.OK && sameTerm(s.Term, api.Term{}) && len(s.Env) == 0 && isVal(s.Val)
	}
	if s.Err != api.OK {
		head = s.Mode == api.MachineEval && s.Err >= 1 && s.Err <= 16 && sameTerm(s.Term, api.Term{}) && len(s.Env) == 0 && sample.SameVal(s.Val, noVal) && len(s.Stack) == 0
	}
	switch {
	case pieces(s) > api.MachineSize:
		return api.ErrLarge
	case !head, slices.ContainsFunc(s.Stack, isNoFrame), slices.ContainsFunc(s.Out, isNoDatum):
		return api.ErrForm
	}
	return api.OK
}

func isNoDatum(d api.Datum) bool { return term.Check(quote(d)) != api.OK }

func isVal(v api.MachineVal) bool {
	switch v.Kind {
	case api.MachineData:
		return sample.SameVal(v, api.MachineVal{Data: v.Data}) && !isNoDatum(v.Data)
	case api.MachinePair:
		return sample.SameVal(v, api.MachineVal{Kind: v.Kind, Parts: v.Parts}) && len(v.Parts) == 2 && isVal(v.Parts[0]) && isVal(v.Parts[1]) && (!isData(v.Parts[0]) || !isData(v.Parts[1])) && extent(v) <= api.DatumSize
	case api.MachineFn:
		return sample.SameVal(v, api.MachineVal{Kind: v.Kind, Fun: v.Fun, Env: v.Env}) && (v.Fun.Op == api.Fn || v.Fun.Op == api.Rec) && term.Check(v.Fun) == api.OK && areBinds(v.Env, sample.Free(v.Fun))
	case api.MachineRest:
		return sample.SameVal(v, api.MachineVal{Kind: v.Kind, Stack: v.Stack}) && len(v.Stack) > 0 && v.Stack[0].Term.Op == api.Handle && len(v.Stack[0].Done) == 1 && !slices.ContainsFunc(v.Stack, isNoFrame)
	}
	return false
}

func areBinds(l []api.MachineBind, names []string) bool {
	if len(l) != len(names) {
		return false
	}
	for i, b := range l {
		if b.Name != names[i] || !isVal(b.Val) {
			return false
		}
	}
	return true
}

func isNoFrame(f api.MachineFrame) bool {
	return term.Check(f.Term) != api.OK || len(f.Done) >= sample.Early(f.Term) || slices.ContainsFunc(f.Done, func(v api.MachineVal) bool { return !isVal(v) }) || !areBinds(f.Env, sample.Behind(f))
}

// Values, as in layer 7.

func isData(v api.MachineVal) bool { return v.Kind == api.MachineData }

func isFunction(v api.MachineVal) bool { return v.Kind == api.MachineFn || v.Kind == api.MachineRest }

func extent(v api.MachineVal) int {
	switch v.Kind {
	case api.MachineData:
		return dataPieces(v.Data)
	case api.MachinePair:
		return 1 + extent(v.Parts[0]) + extent(v.Parts[1])
	}
	return 1
}

func ofData(d api.Datum) api.MachineVal { return api.MachineVal{Data: d} }

func truth(is bool) api.MachineVal { return ofData(read(map[bool]string{true: "#t", false: "#f"}[is])) }

func join(v, w api.MachineVal) api.MachineVal {
	if isData(v) && isData(w) {
		return ofData(sample.Pair(v.Data, w.Data))
	}
	return api.MachineVal{Kind: api.MachinePair, Parts: []api.MachineVal{v, w}}
}

func listOf(l []api.MachineVal) api.MachineVal {
	if len(l) == 0 {
		return api.MachineVal{}
	}
	return join(l[0], listOf(l[1:]))
}

// halves are both parts of a pair.
func halves(v api.MachineVal) (first, second api.MachineVal, ok bool) {
	switch {
	case v.Kind == api.MachinePair:
		return v.Parts[0], v.Parts[1], true
	case isData(v) && v.Data.Kind == api.Pair:
		return ofData(v.Data.Parts[0]), ofData(v.Data.Parts[1]), true
	}
	return v, v, false
}

func elementsOf(v api.MachineVal) (l []api.MachineVal, ok bool) {
	for {
		first, second, ok := halves(v)
		if !ok {
			return l, isData(v) && v.Data.Kind == api.Nil
		}
		l, v = append(l, first), second
	}
}

func shown(v api.MachineVal) api.Datum {
	switch v.Kind {
	case api.MachineData:
		return v.Data
	case api.MachinePair:
		return sample.Pair(shown(v.Parts[0]), shown(v.Parts[1]))
	}
	return sym("function")
}

func operated(op string, l []api.MachineVal) (api.MachineVal, api.Errno) {
	var data []api.Datum
	for _, v := range l {
		if isData(v) {
			data = append(data, v.Data)
		}
	}
	if len(data) == len(l) {
		d, e := term.Delta(op, data)
		return ofData(d), e
	}
	first, second, isPair := halves(l[0])
	switch op {
	case "cons":
		v := join(l[0], l[1])
		if extent(v) > api.DatumSize {
			return v, api.ErrLarge
		}
		return v, api.OK
	case "pair?":
		return truth(isPair), api.OK
	case "fn?":
		return truth(isFunction(l[0])), api.OK
	case "eq", "not", "null?", "num?", "sym?", "str?", "bool?", "vec?":
		return truth(false), api.OK
	}
	switch {
	case op == "car" && isPair:
		return first, api.OK
	case op == "cdr" && isPair:
		return second, api.OK
	}
	return api.MachineVal{}, api.ErrKind
}

// bound is what the free names of a term are, by a list of binds, the last one of a name being what it is.
func bound(names []string, env []api.MachineBind) []api.MachineBind {
	var l []api.MachineBind
	for _, name := range names {
		for _, b := range slices.Backward(env) {
			if b.Name == name {
				l = append(l, b)
				break
			}
		}
	}
	return l
}

func evaluated(s api.MachineState, t api.Term, env []api.MachineBind) api.MachineState {
	return api.MachineState{Mode: api.MachineEval, Term: t, Env: bound(sample.Free(t), env), Stack: s.Stack, Out: s.Out}
}

func back(s api.MachineState, v api.MachineVal) api.MachineState {
	return api.MachineState{Mode: api.MachineBack, Val: v, Stack: s.Stack, Out: s.Out}
}

func failed(s api.MachineState, e api.Errno) api.MachineState {
	return api.MachineState{Out: s.Out, Err: e}
}

func isOver(s api.MachineState) bool {
	return s.Err != api.OK || s.Mode == api.MachineBack && len(s.Stack) == 0
}

// stepped is the next state of one that is not over.
func stepped(s api.MachineState) api.MachineState {
	if s.Mode == api.MachineBack {
		return returned(s)
	}
	t := s.Term
	switch t.Op {
	case api.Quote:
		return back(s, ofData(t.Data))
	case api.Var:
		return back(s, s.Env[0].Val)
	case api.Fn, api.Rec:
		return back(s, api.MachineVal{Kind: api.MachineFn, Fun: t, Env: s.Env})
	case api.Marks:
		var l []api.MachineVal
		for _, f := range slices.Backward(s.Stack) {
			if f.Term.Op == api.Mark && len(f.Done) == 1 {
				l = append(l, f.Done[0])
			}
		}
		if v := listOf(l); extent(v) <= api.DatumSize {
			return back(s, v)
		}
		return failed(s, api.ErrLarge)
	}
	f := api.MachineFrame{Term: t}
	f.Env = bound(sample.Behind(f), s.Env)
	next := evaluated(s, t.Args[0], s.Env)
	next.Stack = append(slices.Clone(s.Stack), f)
	return next
}

// returned is the next state of one in which a value was found.
func returned(s api.MachineState) api.MachineState {
	last := len(s.Stack) - 1
	f := s.Stack[last]
	t, done := f.Term, append(slices.Clone(f.Done), s.Val)
	s.Stack = slices.Clone(s.Stack[:last])
	if len(done) < sample.Early(t) {
		g := api.MachineFrame{Term: t, Done: done}
		g.Env = bound(sample.Behind(g), f.Env)
		next := evaluated(s, t.Args[len(done)], f.Env)
		next.Stack = append(s.Stack, g)
		return next
	}
	switch t.Op {
	case api.App:
		return called(s, done[0], done[1:])
	case api.Apply:
		if l, ok := elementsOf(done[1]); ok && isFunction(done[0]) {
			return called(s, done[0], l)
		}
		return failed(s, api.ErrKind)
	case api.If:
		if sample.SameVal(s.Val, truth(false)) {
			return evaluated(s, t.Args[2], f.Env)
		}
		return evaluated(s, t.Args[1], f.Env)
	case api.Let:
		return evaluated(s, t.Args[1], append(slices.Clone(f.Env), api.MachineBind{Name: t.Name, Val: s.Val}))
	case api.Prim:
		v, e := operated(t.Name, done)
		if e != api.OK {
			return failed(s, e)
		}
		return back(s, v)
	case api.Emit:
		s.Out = append(slices.Clone(s.Out), shown(s.Val))
		return back(s, s.Val)
	case api.Signal:
		for at, g := range slices.Backward(s.Stack) {
			if g.Term.Op == api.Handle && len(g.Done) == 1 {
				rest := api.MachineVal{Kind: api.MachineRest, Stack: s.Stack[at:]}
				s.Stack = s.Stack[:at]
				return called(s, g.Done[0], []api.MachineVal{s.Val, rest})
			}
		}
		return failed(s, api.ErrNone)
	}
	return back(s, s.Val) // of Handle and Mark
}

func called(s api.MachineState, f api.MachineVal, args []api.MachineVal) api.MachineState {
	params := len(f.Fun.Names)
	if f.Kind == api.MachineRest {
		params = 1
	}
	switch {
	case !isFunction(f):
		return failed(s, api.ErrKind)
	case len(args) < params:
		return failed(s, api.ErrFew)
	case len(args) > params:
		return failed(s, api.ErrMany)
	case f.Kind == api.MachineRest:
		s.Stack = append(slices.Clone(s.Stack), f.Stack...)
		return back(s, args[0])
	}
	env := append(slices.Clone(f.Env), api.MachineBind{Name: f.Fun.Name, Val: f})
	for i, name := range f.Fun.Names {
		env = append(env, api.MachineBind{Name: name, Val: args[i]})
	}
	return evaluated(s, f.Fun.Args[0], env)
}

// filled is a term with the terms of values in the place of names.
func filled(t api.Term, env []api.MachineBind) (api.Term, api.Errno) {
	var names []string
	var l []api.Term
	for _, b := range env {
		v, e := termOf(b.Val)
		if e != api.OK {
			return v, e
		}
		names, l = append(names, b.Name), append(l, v)
	}
	return term.SubstAll(t, names, l)
}

func termOf(v api.MachineVal) (api.Term, api.Errno) {
	switch v.Kind {
	case api.MachineData:
		return quote(v.Data), api.OK
	case api.MachinePair:
		first, e := termOf(v.Parts[0])
		second, f := termOf(v.Parts[1])
		return prim("cons", first, second), max(e, f)
	case api.MachineFn:
		return filled(v.Fun, v.Env)
	}
	body, e := framed(v.Stack, nameVar("v"))
	return function("v", body), e
}

// framed is a term inside of frames.
func framed(l []api.MachineFrame, inside api.Term) (api.Term, api.Errno) {
	for _, f := range slices.Backward(l) {
		whole := f.Term
		whole.Args = nil
		for _, v := range f.Done {
			t, e := termOf(v)
			if e != api.OK {
				return t, e
			}
			whole.Args = append(whole.Args, t)
		}
		whole.Args = append(whole.Args, inside)
		for _, a := range f.Term.Args[len(whole.Args):] {
			t, e := filled(a, f.Env)
			if e != api.OK {
				return t, e
			}
			whole.Args = append(whole.Args, t)
		}
		inside = whole
	}
	return inside, api.OK
}

func unloaded(s api.MachineState) (api.Term, api.Errno) {
	inside, e := filled(s.Term, s.Env)
	if s.Mode == api.MachineBack {
		inside, e = termOf(s.Val)
	}
	if e != api.OK {
		return api.Term{}, e
	}
	t, e := framed(s.Stack, inside)
	if e != api.OK || size(t) > api.TermSize {
		return api.Term{}, api.ErrLarge
	}
	return t, api.OK
}

// resultOf is what a state has ended with that is over.
func resultOf(s api.MachineState) api.Result {
	return api.Result{Value: shown(s.Val), Out: s.Out, Err: s.Err}
}

// compareState compares what is said of a state, and the next one.
func compareState(t *testing.T, s api.MachineState) {
	t.Helper()
	over, e := machine.Over(s)
	if e != api.OK || over != isOver(s) {
		t.Error(stateText(s), over, e)
	}
	want := "error 16"
	if isOver(s) {
		want = toldResult(resultOf(s), api.OK)
	}
	if got := toldResult(machine.Result(s)); got != want {
		t.Error(stateText(s), got, want)
	}
	want = "error 16"
	if s.Err == api.OK {
		want = told(unloaded(s))
	}
	if got := told(machine.Unload(s)); got != want {
		t.Error(stateText(s), got, want)
	}
	next, e := machine.Step(s)
	if isOver(s) {
		if e != api.ErrStuck {
			t.Error(stateText(s), toldState(next, e))
		}
		return
	}
	due := stepped(s)
	if pieces(due) > api.MachineSize {
		if e != api.ErrLarge {
			t.Error(stateText(s), e)
		}
		return
	}
	if e != api.OK || !sameState(next, due) {
		t.Error(stateText(s), toldState(next, e), stateText(due))
	}
}

// TestApart compares states of runs, one after the other, and what runs end with, over many programs.
func TestApart(t *testing.T) {
	t.Parallel()
	r := sample.NewRandom(1)
	met := map[string]int{}
	for _, x := range programs(2, 1000) {
		s := must[api.MachineState](t)(machine.Load(x))
		if !sameState(s, api.MachineState{Term: x}) {
			t.Error(text(x), stateText(s))
		}
		most, deepest := 1+r.Below(60), 0
		var turns []int
		for len(turns) < most && !isOver(s) && pieces(s) <= api.MachineSize {
			compareState(t, s)
			if s.Mode == api.MachineBack {
				turns = append(turns, s.Stack[len(s.Stack)-1].Term.Op)
			} else {
				turns = append(turns, s.Term.Op)
			}
			s = stepped(s)
			deepest = max(deepest, len(s.Stack))
		}
		if pieces(s) > api.MachineSize {
			met["large"]++
			continue
		}
		compareState(t, s)
		want := resultOf(s)
		if !isOver(s) {
			want = api.Result{Out: s.Out, Err: api.ErrLimit}
		} else if len(turns) < most {
			most = len(turns) + r.Below(3)
		}
		met["end "+toldOr("", want.Err)]++
		end, steps, e := machine.Go(must[api.MachineState](t)(machine.Load(x)), most)
		if e != api.OK || !sameState(end, s) || steps != len(turns) {
			t.Error(text(x), most, toldGo(end, steps, e), stateText(s))
		}
		if a, b := toldRun(machine.Run(x, most)), toldRun(want, len(turns), api.OK); a != b {
			t.Error(text(x), most, a, b)
		}
		if l, e := machine.Turns(x, most); e != api.OK || !slices.Equal(l, turns) {
			t.Error(text(x), most, toldTurns(l, e), toldTurns(turns, e))
		}
		if n, e := machine.Deep(x, most); e != api.OK || n != deepest {
			t.Error(text(x), most, n, e, deepest)
		}
	}
	for what, n := range map[string]int{"end error 4": 10, "end error 10": 10, "end error 6": 5, "end error 12": 100, "end ": 200} {
		if met[what] < n {
			t.Error(what, met)
		}
	}
}

// TestApartByChance compares states to which no run may come.
func TestApartByChance(t *testing.T) {
	t.Parallel()
	r := sample.NewRandom(3)
	steps := 0
	for range 1500 {
		s := r.State(r.Below(4))
		for range 12 {
			if pieces(s) > api.MachineSize {
				break
			}
			if e := machine.Check(s); e != api.OK || checkApart(s) != api.OK {
				t.Error(stateText(s), e, checkApart(s))
			}
			compareState(t, s)
			if isOver(s) {
				break
			}
			s = stepped(s)
			steps++
		}
	}
	if steps < 4000 {
		t.Error(steps)
	}
}

// TestCheckApart compares what Check says of states in which some fields were changed.
func TestCheckApart(t *testing.T) {
	t.Parallel()
	r := sample.NewRandom(4)
	met := map[api.Errno]int{}
	for _, s := range states(5, 4000) {
		s = sample.CopyState(s)
		for range 1 + r.Below(2) {
			r.WildState(&s)
		}
		want := checkApart(s)
		met[want]++
		if e := machine.Check(s); e != want {
			t.Error(stateText(s), e, want)
		}
	}
	if met[api.OK] < 300 || met[api.ErrForm] < 2000 {
		t.Error(met)
	}
}

// TestOperations compares what operations make of values of all kinds.
func TestOperations(t *testing.T) {
	t.Parallel()
	var l []api.MachineVal
	for _, s := range []string{"()", "#f", "#t", "5", "(quote a)", `"s"`, "(quote (1 2))", "(quote (1 . 2))", "(quote #(1))", "(fn () 1)", "(let y 2 (fn (x) y))", "(rec f (x y) (f x))", "(cons 1 (fn () 1))", "(cons (fn () 1) ())", "(cons (cons (fn () 2) 1) (quote (3)))", "(cons (quote (1 2)) (cons (fn (x) x) (quote (3))))", "(handle (fn (x k) k) (+ 1 (signal 2)))", "(handle (fn (x k) (cons 1 (cons k ()))) (signal 2))"} {
		l = append(l, val(s))
	}
	on := func(op int, name string, done ...api.MachineVal) {
		args := slices.Repeat([]api.Term{parse("1")}, len(done))
		if op == api.If {
			args = sample.Terms("1", "2", "3")
		}
		last := len(done) - 1
		compareState(t, api.MachineState{Mode: api.MachineBack, Val: done[last], Stack: []api.MachineFrame{{Term: api.Term{Op: op, Name: name, Args: args}, Done: done[:last]}}})
	}
	for _, v := range l {
		for _, op := range sample.Unary() {
			on(api.Prim, op, v)
		}
		for _, op := range []int{api.If, api.Emit, api.Signal, api.App} {
			on(op, "", v)
		}
		for _, w := range l {
			for _, op := range sample.Binary() {
				on(api.Prim, op, v, w)
			}
			for _, op := range []int{api.App, api.Apply, api.Handle, api.Mark} {
				on(op, "", v, w)
			}
		}
	}
}
