package machine_test

import (
	"slices"
	"strings"
	"testing"

	"caracole/api"
	"caracole/machine"
	"caracole/rule"
	"caracole/sample"
)

// limits are numbers of steps for which one cannot ask.
func limits() []int { return []int{-1, api.RunSteps + 1, -1 << 63, 1<<63 - 1} }

// TestErrors: a function returns the first error of the chapter's order (R1).
func TestErrors(t *testing.T) {
	bad, open := api.Term{Op: 99}, parse("(f 1)")
	large := heavy(api.MachineSize)
	for i, x := range []struct {
		t    api.Term
		want []string
	}{
		{call(open, bad), slices.Repeat([]string{"error 4"}, 4)}, {bad, slices.Repeat([]string{"error 4"}, 4)}, {open, slices.Repeat([]string{"error 2"}, 4)},
		{parse("(let x x 1)"), slices.Repeat([]string{"error 2"}, 4)}, {call(open, terms(1998)), slices.Repeat([]string{"error 8"}, 4)}, {call(large, open), slices.Repeat([]string{"error 2"}, 4)},
		{large, []string{"error 8", "error 13", "error 13", "error 13"}}, {parse("1"), []string{"eval 1", "error 13", "error 13", "error 13"}},
	} {
		for _, most := range limits() {
			if got := ofTerm(x.t, most); !slices.Equal(got, x.want) {
				t.Error(i, got, "want", x.want)
			}
		}
	}
	for i, x := range []struct {
		s    api.MachineState
		want []string
	}{
		{api.MachineState{Mode: 2, Term: large}, slices.Repeat([]string{"error 8"}, 6)},
		{api.MachineState{Mode: 2}, slices.Repeat([]string{"error 1"}, 6)},
		{api.MachineState{Term: bad}, slices.Repeat([]string{"error 1"}, 6)},
		{api.MachineState{Term: parse("1")}, []string{"", "back 1", "error 13", "false", "error 16", "1"}},
		{api.MachineState{Mode: api.MachineBack}, []string{"", "error 16", "error 13", "true", "()", "()"}},
		{api.MachineState{Err: api.ErrZero, Out: []api.Datum{num(1)}}, []string{"", "error 16", "error 13", "true", "error 7 out 1", "error 16"}},
	} {
		for _, most := range limits() {
			if got := ofState(x.s, most); !slices.Equal(got, x.want) {
				t.Error(i, got, "want", x.want)
			}
		}
	}
	for _, most := range []int{0, api.RunSteps} {
		got := ofTerm(parse("(+ 1 2)"), most)[1:]
		want := map[int][]string{0: {"error 12 in 0", "0", ""}, api.RunSteps: {"3 in 5", "1", "prim quote prim quote prim"}}[most]
		if !slices.Equal(got, want) {
			t.Error(most, got)
		}
	}
}

// heavy is a closed term that has so many pieces, in rather few terms.
func heavy(pieces int) api.Term {
	if pieces <= api.DatumSize+1 {
		return quote(wide(pieces - 2))
	}
	return prim("cons", quote(wide(999)), heavy(pieces-1003)) // 1000 pieces of data, and three of terms and no data
}

// growing is a state after which there is one with so many pieces, which has the value of x twice.
func growing(pieces int) api.MachineState {
	body := heavy((pieces - 24) / 2)
	x := api.MachineVal{Kind: api.MachineFn, Fun: api.Term{Op: api.Fn, Args: []api.Term{body}}}
	s := api.MachineState{Term: parse("(cons x x)"), Env: []api.MachineBind{{Name: "x", Val: x}}}
	for range pieces % 2 {
		s.Out = append(s.Out, num(1))
	}
	return s
}

// TestTooLarge: states with more than 20000 pieces (P8.1, P8.2), of which a run may have some (P8.5).
func TestTooLarge(t *testing.T) {
	for n, want := range map[int]api.Errno{api.MachineSize: api.OK, api.MachineSize + 1: api.ErrLarge} {
		s, e := machine.Load(heavy(n - 5))
		if e != want || e == api.OK && pieces(s) != n {
			t.Error("Load", n, pieces(s), e)
		}
		if e := machine.Check(api.MachineState{Term: heavy(n - 5)}); e != want {
			t.Error("Check", n, e)
		}
		s = growing(n)
		next, e := machine.Step(s)
		if e != want || e == api.OK && pieces(next) != n {
			t.Error("Step", n, pieces(next), e)
		}
		for most, due := range map[int]api.Errno{0: api.OK, 1: want, 2: api.OK} {
			after, steps, e := machine.Go(s, most)
			if e != due || e == api.OK && steps != most || e != api.OK && (steps != 0 || !sameState(after, api.MachineState{})) {
				t.Error("Go", n, most, steps, e)
			}
		}
		for what, x := range map[string]api.MachineState{
			"out":    {Out: slices.Repeat([]api.Datum{num(1)}, n-7)},
			"failed": {Err: api.ErrKind, Out: append(slices.Repeat([]api.Datum{num(1)}, n-1007), wide(999))},
			"val":    {Mode: api.MachineBack, Val: api.MachineVal{Kind: api.MachineFn, Fun: function("x", heavy(n-8))}},
			"frames": {Stack: []api.MachineFrame{{Term: api.Term{Op: api.Emit, Args: []api.Term{heavy(n - 10)}}}}},
			"form":   {Mode: 5, Err: -1, Term: parse("x"), Stack: []api.MachineFrame{{Done: []api.MachineVal{{}}}}, Val: api.MachineVal{Stack: make([]api.MachineFrame, 1), Env: make([]api.MachineBind, 1)}, Out: slices.Repeat([]api.Datum{{Kind: 9}}, n-22)},
		} {
			due := want
			if what == "form" {
				due = map[api.Errno]api.Errno{api.OK: api.ErrForm, api.ErrLarge: api.ErrLarge}[want]
			}
			if e := machine.Check(x); e != due || e != checkApart(x) || pieces(x) != n {
				t.Error(what, n, pieces(x), e, due)
			}
		}
	}
	// A state that is too large on the way, but not in the end.
	s := growing(api.MachineSize + 1)
	s.Term = prim("car", s.Term)
	if end, steps, e := machine.Go(s, 99); e != api.OK || steps != 7 || end.Val.Kind != api.MachineFn {
		t.Error(steps, e)
	}
	x := prim("car", prim("cons", parse("(emit 1)"), heavy(1900)))
	for range 15 {
		x = call(function("x", x), heavy(2000))
	}
	if _, e := machine.Load(x); e != api.ErrLarge {
		t.Error(e)
	}
	if got := ofTerm(x, 99)[1:]; got[0] != "1 out 1 in 84" || got[1] != "3" || !strings.HasSuffix(got[2], "prim quote prim prim") {
		t.Error(got)
	}
}

// TestUnloadTooLarge: a term of a state has at most 2000 terms (P8.4).
func TestUnloadTooLarge(t *testing.T) {
	value := func(n int) api.MachineVal {
		return api.MachineVal{Kind: api.MachineFn, Fun: function("y", terms(n-1))}
	}
	for n, want := range map[int]api.Errno{1999: api.OK, 2000: api.ErrLarge} {
		s := api.MachineState{Term: parse("(cons x y)"), Env: []api.MachineBind{{Name: "x", Val: value(1000)}, {Name: "y", Val: value(n - 1000)}}}
		for i := range 6 { // as what is evaluated, in a frame, and as what was found
			x, e := machine.Unload(s)
			if e != want || e == api.OK && size(x) != n+1 || e != api.OK && !sameTerm(x, api.Term{}) {
				t.Error(n, size(x), e)
			}
			if i < 5 {
				s = must[api.MachineState](t)(machine.Step(s))
			}
		}
		// In a rest: the Fn and its Var, the Handle and its handler, and what waits.
		handle := api.MachineFrame{Term: parse("(handle 1 2)"), Done: []api.MachineVal{val("(fn (x k) k)")}}
		waits := api.MachineFrame{Term: prim("cons", parse("1"), terms(n-5))}
		rest := api.MachineVal{Kind: api.MachineRest, Stack: []api.MachineFrame{handle, waits}}
		x, e := machine.Unload(api.MachineState{Mode: api.MachineBack, Val: rest})
		if e != want || e == api.OK && size(x) != n+1 {
			t.Error(n, size(x), e)
		}
	}
}

// TestEndless: values that come several times in one another are more than all memory as terms, or as plain data, and fail soon (P1).
func TestEndless(t *testing.T) {
	t.Parallel()
	nested := func(n int, x api.Term, lets ...string) api.Term {
		for range n {
			for _, l := range lets {
				name, value, _ := strings.Cut(l, " ")
				x = let(name, parse(value), x)
			}
		}
		return let("f", parse("(fn (x) x)"), let("g", parse("(fn (x) 1)"), x))
	}
	x := nested(150, parse("f"), "f (fn (x) (f f))")
	for n, want := range map[int]api.Errno{21: api.OK, 60: api.ErrLarge, 460: api.ErrLarge} {
		v, e := machine.Unload(loaded(x, n))
		if e != want {
			t.Error(n, size(v), e)
		}
	}
	if got := ofTerm(x, 999)[1:3]; !slices.Equal(got, []string{"function in 457", "1"}) {
		t.Error(got)
	}
	x = nested(150, parse("(cons f g)"), "g (fn (x) (f g))", "f (fn (x) (f g))")
	s := must[api.MachineState](t)(machine.Load(x))
	for n, want := range map[int]api.Errno{40: api.OK, 200: api.ErrLarge, 910: api.ErrLarge} {
		after, steps, e := machine.Go(s, n)
		if e != want || steps != map[api.Errno]int{api.OK: n}[want] {
			t.Error(n, steps, pieces(after), e)
		}
	}
	if got := ofTerm(x, 9999)[1:3]; !slices.Equal(got, []string{"(function . function) in 911", "1"}) {
		t.Error(got)
	}
}

// TestZeros: with an error all other results are zero (R3).
func TestZeros(t *testing.T) {
	for _, x := range []api.Term{{Op: 99}, parse("x"), heavy(30000)} {
		s, _ := machine.Load(x)
		r, n, _ := machine.Run(x, -1)
		deep, _ := machine.Deep(x, -1)
		turns, _ := machine.Turns(x, -1)
		if !sameState(s, api.MachineState{}) || toldRun(r, n, api.OK) != "() in 0" || deep != 0 || turns != nil {
			t.Error(text(x))
		}
	}
	for _, s := range []api.MachineState{{Mode: 7}, growing(30000), {Mode: api.MachineBack, Term: parse("x")}} {
		next, e := machine.Step(s)
		end, n, f := machine.Go(s, 1)
		over, _ := machine.Over(s)
		r, g := machine.Result(s)
		x, _ := machine.Unload(s)
		if e == api.OK || f == api.OK || g == api.OK || !sameState(next, api.MachineState{}) || !sameState(end, api.MachineState{}) || n != 0 || over || toldResult(r, api.OK) != "()" || machine.Check(s) == api.OK && size(x) > 99 {
			t.Error(s.Mode, e, f, g)
		}
	}
}

// TestMemory: no result shares memory with an argument, with another one, nor with itself (R4).
func TestMemory(t *testing.T) {
	t.Parallel()
	shared := parse("(let y (quote (1 2)) (handle (fn (x k) (cons k (cons k (k (emit x))))) (mark y (cons (fn (x y) (cons (fn () y) y)) (cons y (cons (signal y) (cons (emit y) (marks))))))))")
	for i, x := range append(programs(30, 400), slices.Repeat([]api.Term{shared}, 90)...) {
		m := sample.Memory{}
		apart := m.Terms(x)
		for range 2 {
			s, e := machine.Load(x)
			r, _, _ := machine.Run(x, i)
			turns, _ := machine.Turns(x, i)
			apart = m.States(s) && m.Data(r.Value) && m.DataList(r.Out) && m.Numbers(turns) && apart
			if e == api.OK {
				s, _, _ = machine.Go(s, i%60)
				apart = m.States(s) && apart
			}
			next, _ := machine.Step(s)
			same, _, _ := machine.Go(s, 0)
			u, _ := machine.Unload(s)
			r, _ = machine.Result(s)
			apart = m.States(next, same) && m.Terms(u) && m.Data(r.Value) && m.DataList(r.Out) && apart
		}
		if !apart {
			t.Error(i, text(x))
		}
	}
	for _, s := range states(31, 200) {
		s = sample.HollowState(s)
		m := sample.Memory{}
		m.States(s)
		for range 2 {
			next, _ := machine.Step(s)
			end, _, _ := machine.Go(s, 5)
			u, _ := machine.Unload(s)
			r, _ := machine.Result(end)
			if !m.States(next, end) || !m.Terms(u) || !m.DataList(r.Out) || !m.Data(r.Value) {
				t.Error(stateText(s))
			}
		}
	}
}

// TestArgumentsStay: arguments are not changed, and calls with the same ones return the same (R2, R4); a nil slice and an empty one mean the same.
func TestArgumentsStay(t *testing.T) {
	t.Parallel()
	for i, x := range programs(32, 400) {
		before := text(x)
		first, again, hollow := ofTerm(x, i), ofTerm(sample.CopyTerm(x), i), ofTerm(sample.HollowTerm(x), i)
		if text(x) != before || !slices.Equal(first, again) || !slices.Equal(first, hollow) {
			t.Error(before, text(x), first, again, hollow)
		}
	}
	for i, s := range states(33, 400) {
		copied := sample.CopyState(s)
		first, again, hollow := ofState(s, i%50), ofState(copied, i%50), ofState(sample.HollowState(s), i%50)
		if !sameState(s, copied) || !slices.Equal(first, again) || !slices.Equal(first, hollow) {
			t.Error(stateText(s), first, again, hollow)
		}
	}
	// What lies in memory behind a slice is neither seen nor written.
	frames := slices.Clone(loaded(parse("(cons (handle 1 (cons 2 3)) 4)"), 5).Stack)
	behind := frames[1:]
	s := api.MachineState{Term: parse("(emit 5)"), Stack: frames[:1]}
	end, _, e := machine.Go(s, 3)
	if e != api.OK || len(end.Out) != 1 || stateText(api.MachineState{Stack: behind}) != "eval () on (cons 2 3) on (handle 1 (cons 2 3)) / 1" {
		t.Error(stateText(end), stateText(api.MachineState{Stack: behind}))
	}
}

// TestAnyValue: functions return whatever the fields of their arguments are, and states that they return are valid (P1, R5).
func TestAnyValue(t *testing.T) {
	t.Parallel()
	r := sample.NewRandom(34)
	for _, x := range programs(35, 1500) {
		x = sample.CopyTerm(x)
		r.Wild(&x)
		_, due := rule.Value(x)
		if due == api.OK {
			continue
		}
		for i, got := range ofTerm(x, r.Below(50)-1) {
			if got != toldOr("", due) {
				t.Error(i, text(x), got, due)
			}
		}
	}
	for _, s := range states(36, 1500) {
		s = sample.CopyState(s)
		for range 1 + r.Below(2) {
			r.WildState(&s)
		}
		due := toldOr("", machine.Check(s))
		for i, got := range ofState(s, r.Below(50)-1) {
			if due != "" && got != due || strings.Contains(got, "with") || strings.Contains(got, "??") {
				t.Error(i, stateText(s), got, due)
			}
		}
		end, _, e := machine.Go(s, 20)
		if e == api.OK && (machine.Check(end) != api.OK || checkApart(end) != api.OK) {
			t.Error(stateText(s), stateText(end))
		}
	}
}

// TestRings: what is a part of itself has too many pieces (P1).
func TestRings(t *testing.T) {
	ring := api.Term{Op: api.App, Args: make([]api.Term, 2)}
	ring.Args[0], ring.Args[1] = ring, ring
	d := api.Datum{Kind: api.Pair, Parts: make([]api.Datum, 2)}
	d.Parts[0], d.Parts[1] = d, d
	pair := api.MachineVal{Kind: api.MachinePair, Parts: make([]api.MachineVal, 2)}
	pair.Parts[0], pair.Parts[1] = pair, pair
	fn := api.MachineVal{Kind: api.MachineFn, Fun: parse("(fn () x)"), Env: []api.MachineBind{{Name: "x"}}}
	fn.Env[0].Val = fn
	rest := api.MachineVal{Kind: api.MachineRest, Stack: []api.MachineFrame{{Term: parse("(handle 1 2)"), Done: make([]api.MachineVal, 1)}}}
	rest.Stack[0].Done[0] = rest
	for i, s := range []api.MachineState{{Term: ring}, {Out: []api.Datum{d}}, {Mode: 1, Val: pair}, {Mode: 1, Val: fn}, {Mode: 1, Val: rest}, {Term: parse("1"), Stack: rest.Stack}, {Term: nameVar("x"), Env: fn.Env}, {Mode: 9, Val: api.MachineVal{Data: d}}} {
		for k, got := range ofState(s, 9) {
			if got != "error 8" {
				t.Error(i, k, got)
			}
		}
	}
	for k, got := range ofTerm(ring, 9) {
		if got != "error 8" {
			t.Error(k, got)
		}
	}
}

// TestDeep: terms, values and stacks as deep as they can be (P1).
func TestDeep(t *testing.T) {
	t.Parallel()
	x := parse("(emit 1)")
	for range 1997 {
		x = prim("not", x)
	}
	if got := ofTerm(x, api.RunSteps)[1:3]; !slices.Equal(got, []string{"#f out 1 in 3997", "1998"}) {
		t.Error(got)
	}
	v := val("(fn () 1)")
	for range 2500 {
		v = api.MachineVal{Kind: api.MachineFn, Fun: parse("(fn () x)"), Env: []api.MachineBind{{Name: "x", Val: v}}}
	}
	s := api.MachineState{Mode: api.MachineBack, Val: v}
	for _, want := range []string{"error 8", ""} {
		end, steps, e := machine.Go(s, 9)
		_, f := machine.Unload(s)
		if e != api.OK || steps != 0 || !sameState(end, s) || toldOr("", f) != want {
			t.Error(steps, e, f)
		}
		for range 502 { // until there are 1998 functions, and a number
			s.Val = s.Val.Env[0].Val
		}
	}
	rest := api.MachineVal{Data: num(1)}
	for range 1200 {
		rest = api.MachineVal{Kind: api.MachineRest, Stack: []api.MachineFrame{{Term: parse("(handle 1 2)"), Done: []api.MachineVal{rest}}}}
	}
	s = api.MachineState{Mode: api.MachineBack, Val: rest}
	if end, _, e := machine.Go(s, 9); e != api.OK || !sameState(end, s) {
		t.Error(e)
	}
	s = api.MachineState{Term: parse("(marks)"), Stack: slices.Repeat([]api.MachineFrame{{Term: parse("(mark 1 2)"), Done: []api.MachineVal{{Data: num(1)}}}}, 999)}
	end, steps, e := machine.Go(s, 9999)
	if e != api.OK || steps != 1000 || !sample.Same(end.Val.Data, sample.List(api.Datum{}, slices.Repeat([]api.Datum{num(1)}, 999)...)) {
		t.Error(steps, e)
	}
	s.Stack = append(s.Stack, s.Stack[0])
	if end, steps, e := machine.Go(s, 9999); e != api.OK || steps != 1 || end.Err != api.ErrLarge {
		t.Error(steps, end.Err, e)
	}
}

// TestManyPieces: pairs and lists of marks have at most 2000 pieces (as in layer 7).
func TestManyPieces(t *testing.T) {
	for n, want := range map[int]string{1998: "OK", 1999: "error 8"} {
		for x, due := range map[string]string{"(cons (fn () 1) d)": want, "(cons d (fn () 1))": want, "(mark (fn () 1) (mark d (marks)))": "error 8", "(mark d (marks))": want, "(cons 1 d)": want} {
			r, _, e := machine.Run(let("d", quote(wide(n-1)), parse(x)), 99)
			if got := toldOr("OK", r.Err); e != api.OK || got != due {
				t.Error(n, x, got, due)
			}
		}
	}
}

// TestSoon: runs of many steps take no more time than there is.
func TestSoon(t *testing.T) {
	t.Parallel()
	for x, want := range map[string]string{
		"((rec up (m) (if (< m 1) ((rec f (n) (if (< n 1) n (f (- n 1)))) 10000) (+ 1 (up (- m 1))))) 300)": "300 in 166025",
		"(handle (fn (x k) (k x)) ((rec f (n) (if (< n 1) 0 (+ 1 (f (signal (- n 1)))))) 3000))":            "3000 in 81017",
	} {
		if got := toldRun(machine.Run(parse(x), api.RunSteps)); got != want {
			t.Error(got)
		}
	}
}
