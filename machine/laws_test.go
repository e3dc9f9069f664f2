package machine_test

import (
	"slices"
	"strconv"
	"testing"

	"caracole/api"
	"caracole/machine"
	"caracole/rule"
	"caracole/sample"
	"caracole/term"
)

// TestRules: a run ends as by the rules (P8.7).
func TestRules(t *testing.T) {
	t.Parallel()
	ended := map[api.Errno]int{}
	for _, x := range programs(20, 6000) {
		a, _, e := rule.Run(x, 300)
		b, _, f := machine.Run(x, 3000)
		if e != api.OK || a.Err == api.ErrLimit || b.Err == api.ErrLimit {
			continue
		}
		ended[a.Err]++
		if toldResult(a, e) != toldResult(b, f) {
			t.Error(text(x), toldResult(a, e), toldResult(b, f))
		}
	}
	if ended[api.OK] < 2000 || ended[api.ErrKind] < 100 || ended[api.ErrNone] < 100 || len(ended) < 8 {
		t.Error(ended)
	}
}

// TestFollows: the terms of states are those of the rules, in their order: from one to the next there is none, or one step of the rules, or by a Signal two (P8.8).
func TestFollows(t *testing.T) {
	t.Parallel()
	moved := map[int]int{}
	for _, x := range programs(21, 800) {
		s, e := machine.Load(x)
		for steps := 0; e == api.OK && steps < 70; steps++ {
			e = follow(t, &s, moved)
		}
	}
	if moved[0] < 8000 || moved[1] < 2000 || moved[2] < 40 {
		t.Error(moved)
	}
}

// follow goes on to the next state, and counts how many steps of the rules this takes. It returns an error if there is no next state, or if terms are too large.
func follow(t *testing.T, s *api.MachineState, moved map[int]int) api.Errno {
	t.Helper()
	before, e := machine.Unload(*s)
	if e != api.OK {
		return e
	}
	next, e := machine.Step(*s)
	if e != api.OK {
		return e
	}
	after, e := machine.Unload(next)
	out := next.Out[len(s.Out):]
	if e == api.OK && sameTerm(before, after) && len(out) == 0 {
		moved[0]++
		*s = next
		return api.OK
	}
	most := 1
	if s.Mode == api.MachineBack && s.Stack[len(s.Stack)-1].Term.Op == api.Signal {
		most = 2
	}
	r, steps, f := rule.Run(before, most)
	due, put, _ := rule.After(before, most)
	if f != api.OK || e == api.ErrLarge {
		return api.ErrLarge
	}
	moved[steps]++
	ends := next.Err != api.OK
	if ends && next.Err != r.Err || !ends && (steps != most || !sameTerm(after, due)) || !slices.EqualFunc(out, put, sample.Same) {
		t.Error(stateText(*s), stateText(next), text(before), text(after), text(due))
	}
	*s = next
	return api.OK
}

// TestCut: a run can be stopped at any state, and goes on from there as if it had not been (P8.9), and its states are valid (P8.10).
func TestCut(t *testing.T) {
	t.Parallel()
	r := sample.NewRandom(22)
	parts := 0
	for _, s := range states(23, 800) {
		end, steps, e := machine.Go(s, 200)
		at := r.Below(steps + 2)
		middle, n, f := machine.Go(s, at)
		if e != api.OK || f != api.OK {
			continue
		}
		parts++
		rest, m, g := machine.Go(middle, 200-at)
		if n != min(at, steps) || n+m != steps || g != api.OK || !sameState(rest, end) {
			t.Error(stateText(s), at, n, m, steps, g)
		}
		for _, x := range []api.MachineState{middle, end} {
			if machine.Check(x) != api.OK || checkApart(x) != api.OK {
				t.Error(stateText(s), at, stateText(x))
			}
		}
		again, n, f := machine.Go(middle, 0)
		if n != 0 || f != api.OK || !sameState(again, middle) {
			t.Error(stateText(middle), toldGo(again, n, f))
		}
	}
	if parts < 900 {
		t.Error(parts)
	}
	// And step by step.
	for _, x := range programs(24, 200) {
		s, e := machine.Load(x)
		end, steps, f := machine.Go(s, 60)
		for range steps {
			s, e = machine.Step(s)
		}
		if e == api.OK && f == api.OK && !sameState(s, end) {
			t.Error(text(x), stateText(s), stateText(end))
		}
	}
}

// TestTail: a loop by calls that come last needs no more frames, however often it goes round; others do (P8.11).
func TestTail(t *testing.T) {
	for text, tail := range map[string]bool{
		"((rec f (n) (if (< n 1) 0 (f (- n 1)))) N)":                                                                                    true,
		"((rec f (n) (let m (- n 1) (if (< m 0) n (if (eq m 5) (f m) (let k f (k m)))))) N)":                                            true,
		"((rec f (n) (if (< n 1) 0 (apply f (cons (- n 1) ())))) N)":                                                                    true,
		"((rec f (n g) (if (< n 1) 0 (g (- n 1) f))) N (rec h (m f) (f m h)))":                                                          true,
		"((rec f (n l) (if (< n 1) l (f (- n 1) (cons n ())))) N ())":                                                                   true,
		"(handle (fn (x k) (k x)) ((rec f (n) (if (< (signal n) 1) 0 (f (- n 1)))) N))":                                                 true,
		"((rec f (n) (if (< n 1) 0 (handle (fn (x k) (f x)) (signal (- n 1))))) N)":                                                     true,
		"((fn (f) (f f N)) (fn (f n) (if (< n 1) 0 (f f (- n 1)))))":                                                                    true,
		"((rec f (n) (if (< n 1) 0 (+ 0 (f (- n 1))))) N)":                                                                              false,
		"((rec f (n) (if (< n 1) 0 (mark n (f (- n 1))))) N)":                                                                           false,
		"((rec f (n) (if (< n 1) 0 (let m (f (- n 1)) m))) N)":                                                                          false,
		"((rec f (n) (if (< n 1) 0 (emit (f (- n 1))))) N)":                                                                             false,
		"((rec f (n) (if (< n 1) 0 (handle f (f (- n 1))))) N)":                                                                         false,
		"((rec f (n) (if (if (< n 1) #t (f (- n 1))) 0 1)) N)":                                                                          false,
		"(handle (fn (x k) (cons 1 (k x))) ((rec f (n) (if (< (signal n) 1) 0 (f (- n 1)))) N))":                                        false,
		"((rec f (n) (if (< n 1) 0 ((f (- n 1)) 2))) N)":                                                                                false,
		"((rec f (n) (if (< n 1) (quote (0)) (apply (fn (x) (cons x ())) (f (- n 1))))) N)":                                             false,
		"((rec f (n) (if (< n 1) 0 (signal (f (- n 1))))) N)":                                                                           false,
		"((rec f (n k) (if (< n 1) (k 0) (f (- n 1) (fn (x) (k (+ x n)))))) N (fn (x) x))":                                              true,
		"((rec f (n) (if (< n 1) (fn () 0) (let g (f (- n 1)) (fn () (g))))) N)":                                                        false,
		"((rec up (n l) (if (< n 1) ((rec sum (l m) (if (null? l) m (sum (cdr l) (+ m (car l))))) l 0) (up (- n 1) (cons n l)))) N ())": true,
	} {
		var deep []int
		for _, n := range []int{1, 7, 100, 900} {
			x := parse(replaceN(text, n))
			d, e := machine.Deep(x, api.RunSteps)
			r, _, f := machine.Run(x, api.RunSteps)
			if e != api.OK || f != api.OK || r.Err == api.ErrLimit {
				t.Error(text, n, e, f, r.Err)
			}
			deep = append(deep, d)
		}
		if same := deep[1] == deep[2] && deep[2] == deep[3]; same != tail || !tail && deep[3] < 800 {
			t.Error(text, deep)
		}
	}
}

// replaceN is a text with a number in the place of N.
func replaceN(text string, n int) string {
	var out []byte
	for i := range len(text) {
		if text[i] == 'N' {
			out = strconv.AppendInt(out, int64(n), 10)
			continue
		}
		out = append(out, text[i])
	}
	return string(out)
}

// TestBack: what is unloaded and loaded again ends in the same way, with what was put out in front of what is still put out (P8.12).
func TestBack(t *testing.T) {
	t.Parallel()
	ended := 0
	for _, s := range states(25, 1500) {
		x, e := machine.Unload(s)
		if s.Err != api.OK || e != api.OK {
			continue
		}
		if free := sample.Free(x); len(free) > 0 || term.Check(x) != api.OK {
			t.Error(stateText(s), text(x), free)
		}
		end, _, e := machine.Go(s, 900)
		r, _, f := machine.Run(x, 1800)
		if e != api.OK || !isOver(end) || r.Err == api.ErrLimit {
			continue
		}
		ended++
		want, e := machine.Result(end)
		r.Out = append(slices.Clone(s.Out), r.Out...)
		if a, b := toldResult(want, e), toldResult(r, f); a != b {
			t.Error(stateText(s), text(x), a, b)
		}
	}
	if ended < 1500 {
		t.Error(ended)
	}
}

// TestRest: the rest of a run may be kept, and put back twice (P8.13).
func TestRest(t *testing.T) {
	t.Parallel()
	kept := 0
	for _, s := range states(26, 2500) {
		if s.Mode != api.MachineBack || len(s.Stack) == 0 {
			continue
		}
		// The frames, under a handler, are a rest. Put back, they end as they do here.
		handle := api.Term{Op: api.Handle, Args: sample.Terms("1", "2")}
		first := api.MachineFrame{Term: handle, Done: []api.MachineVal{val("(fn (x k) (k x))")}}
		s.Stack = append([]api.MachineFrame{first}, s.Stack...)
		s.Out = nil
		once, steps, e := machine.Go(s, 300)
		if e != api.OK || once.Err != api.OK || !isOver(once) {
			continue
		}
		kept++
		rest := api.MachineVal{Kind: api.MachineRest, Stack: s.Stack}
		twice := api.MachineState{Term: parse("(cons (k x) (k x))"), Env: []api.MachineBind{{Name: "k", Val: rest}, {Name: "x", Val: s.Val}}}
		end, n, e := machine.Go(twice, 9000)
		due := join(once.Val, once.Val)
		switch {
		case extent(due) > api.DatumSize:
			due = api.MachineVal{}
		case e == api.ErrLarge:
			continue
		}
		// 1 for the cons, 6 and 5 for both calls, and 2 between and behind them.
		if !sample.SameVal(end.Val, due) || n != 2*steps+13 || !slices.EqualFunc(end.Out, slices.Repeat(once.Out, 2), sample.Same) {
			t.Error(stateText(s), toldGo(end, n, e), toldGo(once, steps, e))
		}
	}
	if kept < 300 {
		t.Error(kept)
	}
	for x, want := range map[string]string{
		"(handle (fn (x k) (cons (k 1) (cons (k 2) (k x)))) (* 10 (signal 3)))":                                                              "(10 20 . 30)",
		"(let k (handle (fn (x k) k) (cons (emit (signal 1)) (emit 9))) (cons (k 5) (k 6)))":                                                 "((5 . 9) 6 . 9) out 5 9 6 9",
		"(handle (fn (x k) (+ (k x) (k 1))) (* 2 (signal 5)))":                                                                               "12",
		"(handle (fn (x k) (k (k x))) (* 2 (signal 5)))":                                                                                     "20",
		"(let k (handle (fn (x k) k) (+ 1 (signal 0))) (k (k (k 7))))":                                                                       "10",
		"(let k (handle (fn (x k) k) (cons (signal 1) (signal 2))) (let j (k 5) (cons (j 6) (j 7))))":                                        "((5 . 6) 5 . 7)",
		"(mark 1 (let k (handle (fn (x k) k) (mark 2 (let y (signal 1) (cons y (marks))))) (mark 3 (cons (k 5) (mark 4 (k 6))))))":           "((5 2 3 1) 6 2 4 3 1)",
		"(handle (fn (x k) (k (+ x 1))) (handle (fn (x k) (k (signal (* x 2)))) (cons (signal 5) (signal 6))))":                              "(11 . 13)",
		"(let k (handle (fn (x k) k) ((fn (a b c d) (cons c d)) 0 0 (signal 0) (signal 0))) (let j (k 1) (let i (k 2) (cons (j 3) (i 4)))))": "((1 . 3) 2 . 4)",
		"(let k (handle (fn (x k) (cons x k)) (handle (fn (x k) (cons (k x) (signal 8))) (cons (signal 1) (emit 2)))) ((cdr k) (car k)))":    "((1 . 2) . 8) out 2",
	} {
		if got := toldResult(firstTwo(machine.Run(parse(x), 999))); got != want {
			t.Error(x, got, "want", want)
		}
	}
}

func firstTwo(r api.Result, _ int, e api.Errno) (api.Result, api.Errno) { return r, e }

// TestCount: Turns has as many elements as Run has steps (P8.14).
func TestCount(t *testing.T) {
	t.Parallel()
	for i, x := range programs(27, 2000) {
		_, steps, e := machine.Run(x, i)
		l, f := machine.Turns(x, i)
		if e != api.OK || f != api.OK || steps > i || len(l) != steps {
			t.Error(text(x), i, steps, len(l), e, f)
		}
	}
}

// TestNames: a term with other names takes as many steps, and as many frames (P8.15).
func TestNames(t *testing.T) {
	t.Parallel()
	for i, x := range programs(28, 1500) {
		canon := must[api.Term](t)(term.Canon(x))
		most := i % 300
		for _, y := range []api.Term{canon, sample.Renamed(x), sample.Renamed(sample.Renamed(canon))} {
			a, b := ofTerm(x, most)[1:], ofTerm(y, most)[1:]
			if !slices.Equal(a, b) {
				t.Error(text(x), text(y), most, a, b)
			}
			s, e := machine.Load(x)
			r, f := machine.Load(y)
			if e == api.OK {
				s, _, e = machine.Go(s, i%40)
				r, _, f = machine.Go(r, i%40)
			}
			if e != f || e != api.OK || s.Err != api.OK {
				continue
			}
			v, e := machine.Unload(s)
			w, f := machine.Unload(r)
			if same, _ := term.Same(v, w); e != f || e == api.OK && !same {
				t.Error(text(x), text(v), text(w), e, f)
			}
		}
	}
}
