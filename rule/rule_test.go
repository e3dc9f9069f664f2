package rule_test

import (
	"slices"
	"strconv"
	"strings"
	"testing"

	"caracole/api"
	"caracole/rule"
	"caracole/sample"
)

// TestValue: what is a value, and what it is shown as (P7.1).
func TestValue(t *testing.T) {
	for x, want := range map[string]string{
		"()": "()", "#f": "#f", "(quote (fn (x) x))": "(fn (x) x)", "(quote #(1 (2)))": "#(1 (2))", "(rec f (x) (f x))": "function", "(fn () (car 5))": "function",
		"(cons (fn () 1) 1)": "(function . 1)", "(cons (cons 1 (fn () 1)) (quote (2)))": "((1 . function) 2)", "(cons (fn (x) x) (rec f () 1))": "(function . function)",
		"(cons 1 2)": "", "(cons (cons 1 2) (fn () 1))": "", "(cons (fn () 1) (cons 1 2))": "", "(car (cons (fn () 1) 1))": "", "((fn () 1))": "", "(marks)": "", "(if #t 1 2)": "", "(let x 1 x)": "", "(mark 1 2)": "", "(emit (fn () 1))": "", "(vector (fn () 1))": "",
	} {
		v, e := rule.Value(parse(x))
		if v != (want != "") || e != api.OK {
			t.Error(x, v, e)
		}
		if got := toldDatum(rule.Show(parse(x))); got != want && (v || got != "error 4") {
			t.Error(x, got, "want", want)
		}
	}
}

// TestLargePairs: a pair of values with 2000 pieces or more in them is no value but the place, and an error (P7.1, P7.3).
func TestLargePairs(t *testing.T) {
	f := parse("(fn () 1)")
	for _, x := range []struct {
		n    int // of pieces of the data
		want bool
	}{{1000, true}, {1998, true}, {1999, false}, {2000, false}} {
		for i, pair := range []api.Term{prim("cons", f, quote(wide(x.n-1))), prim("cons", quote(wide(x.n-1)), f)} {
			v, e := rule.Value(pair)
			if v != x.want || e != api.OK {
				t.Error(x.n, i, v, e)
			}
			d, e := rule.Show(pair)
			if x.want && (e != api.OK || len(sample.Paths(d)) != x.n+2) || !x.want && e != api.ErrKind {
				t.Error(x.n, i, e)
			}
			if !x.want {
				if got := toldStep(rule.Step(pair)); got != "prim error 8" {
					t.Error(x.n, i, got)
				}
			}
		}
		deep := prim("cons", f, prim("cons", quote(num(1)), prim("cons", f, quote(wide(x.n-6)))))
		if v, e := rule.Value(deep); v != (x.n < 2000) || e != api.OK {
			t.Error(x.n, v, e)
		}
	}
	// Both are data: layer 4 says that the pair is too large.
	if got := toldStep(rule.Step(prim("cons", quote(wide(1000)), quote(wide(1000))))); got != "prim error 8" {
		t.Error(got)
	}
}

// TestSteps are steps of all rules (P7.2, P7.3).
func TestSteps(t *testing.T) {
	for x, want := range map[string]string{
		"((fn () 5))": "call 5", "((fn (x x1 y) (x y x1)) 1 2 3)": "call (1 3 2)", "((rec f (x) (f (f x))) 1)": "call ((rec f (x) (f (f x))) ((rec f (x) (f (f x))) 1))", "((rec f () (fn (f) f)))": "call (fn (f) f)", "((fn (x) (fn (y x) (x y))) 1)": "call (fn (y x) (x y))", "((fn (x) (let x x x)) 1)": "call (let x 1 x)", "((fn (x) (rec x (y) (x y))) 1)": "call (rec x (y) (x y))", "((fn (x y) (rec f (y) (x y))) (fn (y) y) 1)": "call (rec f (y) ((fn (y) y) y))",
		"(5)": "call error 4", "((quote f) 1 2)": "call error 4", "((cons 1 (fn () 1)) 1)": "call error 4", "((fn (x) 1))": "call error 5", "((fn () 1) 2)": "call error 6", "((rec f (x y) 1) 2)": "call error 5", "((rec f (x y) 1) 2 3 4)": "call error 6",
		"(apply (fn (x y) (cons y x)) (quote (1 (2))))": "apply (cons (quote (2)) 1)", "(apply (fn () 1) ())": "apply 1", "(apply (fn (x y) (x y)) (cons (fn (z) z) (quote (3))))": "apply ((fn (z) z) 3)", "(apply (rec f (x) (f x)) (cons (fn () 1) ()))": "apply ((rec f (x) (f x)) (fn () 1))",
		"(apply 1 2)": "apply error 4", "(apply (fn () 1) 2)": "apply error 4", "(apply (fn (x) 1) (quote (1 . 2)))": "apply error 4", "(apply (fn (x) 1) (cons 1 (fn () 1)))": "apply error 4", "(apply (fn (x) 1) (cons (fn () 1) (quote (1 . 2))))": "apply error 4", "(apply (fn (x) 1) #f)": "apply error 4", "(apply (fn (x) 1) ())": "apply error 5", "(apply (fn (x) 1) (quote (1 2)))": "apply error 6", "(apply (fn (x) 1) (quote (1 2 3 4 5 6 7 8)))": "apply error 6", "(apply (cons 1 (fn () 1)) (quote (1 . 2)))": "apply error 4",
		"(if #f 1 2)": "if 2", "(if #t 1 2)": "if 1", "(if 0 1 2)": "if 1", "(if () (car 1) 2)": "if (car 1)", "(if (fn () #f) 1 2)": "if 1", "(if (quote f) 1 2)": "if 1", "(if (cons #f (fn () #f)) 1 2)": "if 1",
		"(let x 1 (cons x x))": "let (cons 1 1)", "(let x (fn (y) y) (let y 1 (x y)))": "let (let y 1 ((fn (y) y) y))", "(let x 1 (let x x x))": "let (let x 1 x)",
		"(handle 1 2)": "handle 2", "(handle (fn (x k) 1) (fn () 1))": "handle (fn () 1)", "(mark 1 (fn () 2))": "mark (fn () 2)", "(emit (cons 1 (fn () 2)))": "emit (cons 1 (fn () 2)) out (1 . function)",
		"(marks)": "marks ()", "(mark 1 (cons 2 (mark (fn () 3) (car (marks)))))": "marks (mark 1 (cons 2 (mark (fn () 3) (car (cons (fn () 3) (quote (1)))))))", "(mark (marks) 2)": "marks (mark () 2)", "(mark 1 (mark (cons 3 (marks)) 2))": "marks (mark 1 (mark (cons 3 (quote (1))) 2))", "(mark 1 (handle (fn () 3) (mark (quote (2)) (marks))))": "marks (mark 1 (handle (fn () 3) (mark (quote (2)) (quote ((2) 1)))))",
		"(handle (signal 1) 2)": "signal error 10", "(handle 7 (handle (signal 1) (signal 2)))": "signal (7 1 (fn (v) (handle 7 (handle v (signal 2)))))", "(handle 7 (handle 8 (signal (fn () 1))))": "signal (handle 7 (8 (fn () 1) (fn (v) (handle 8 v))))", "(let v (handle 7 (cons (fn (v) v) (signal 1))) (cons v v))": "signal (let v (7 1 (fn (v) (handle 7 (cons (fn (v) v) v)))) (cons v v))",
		"(fail 7)": "prim error 7", "(fail 17)": "prim error 9", "(fail (fn () 1))": "prim error 4", "(eq (fn () 1) (fn () 1))": "prim #f", "(+ 1 (fn () 1))": "prim error 4", "(car (cons (fn () 1) 2))": "prim (fn () 1)", "(cdr (cons (fn () 1) 2))": "prim 2", "(car (fn () 1))": "prim error 4", "(cdr (rec f () 1))": "prim error 4", "(items (cons 1 (fn () 1)))": "prim error 4", "(vector (cons (fn () 1) ()))": "prim error 4",
		"(cons (car (quote (1))) (car ()))": "prim (cons 1 (car ()))", "((car 1) (car 2))": "prim error 4", "(cons (cons 1 2) (emit 3))": "prim (cons (quote (1 . 2)) (emit 3))",
	} {
		if got := toldStep(rule.Step(parse(x))); got != want {
			t.Error(x, got, "want", want)
		}
	}
}

// TestPlaces: where the place is, and what is around it (P7.2).
func TestPlaces(t *testing.T) {
	for x, want := range map[string]string{
		"(f1 1)": "error 2 error 2 error 2", "(fn () (marks))": "error 16 error 16 error 16", "(marks)": " (fn (v) v) ", "(if (let x (marks) x) (marks) (marks))": "0 0 (fn (v) (if (let x v x) (marks) (marks))) ",
		"((fn (x) x) 1 (car 2) (car 3))": "2 (fn (v) ((fn (x) x) 1 v (car 3))) ", "(apply (fn () 1) (emit 2))": "1 (fn (v) (apply (fn () 1) v)) ", "(let x (mark 3 (mark 4 (emit (handle (signal 5) 2)))) x)": "0 1 1 0 0 (fn (v) (let x (mark 3 (mark 4 (emit (handle v 2)))) x)) 4 3", "(mark 1 (mark (signal (car 2)) 3))": "1 0 0 (fn (v) (mark 1 (mark (signal v) 3))) 1", "(mark (fn () 1) 2)": " (fn (v) v) ", "(handle 1 (mark 2 3))": "1 (fn (v) (handle 1 v)) ",
	} {
		a, b, c := toldNumbers(rule.Find(parse(x))), told(rule.Around(parse(x))), toldTerms(rule.Marked(parse(x)))
		if got := strings.TrimPrefix(a+" "+b+" "+c, " "); got != strings.TrimPrefix(want, " ") {
			t.Error(x, got, "want", want)
		}
	}
}

// TestTooLarge: what has more than 2000 terms (P7.2 to P7.5).
func TestTooLarge(t *testing.T) {
	f := function("x", api.Term{Op: api.App, Args: slices.Repeat([]api.Term{nameVar("x")}, 7)})
	for n, want := range map[int]api.Errno{285: api.OK, 286: api.ErrLarge} { // 7 * 285 + 1 is 1996
		x := call(f, value(n))
		_, e := rule.Step(x)
		_, _, g := rule.After(x, 1)
		l, h := rule.Trace(x, 1)
		r, steps, i := rule.Run(x, 1)
		if e != want || g != want || h != want || i != want || want != api.OK && (steps != 0 || r.Err != 0 || l != nil) {
			t.Error(n, e, g, h, i, steps, r.Err)
		}
		if _, steps, e := rule.Run(x, 0); e != api.OK || steps != 0 {
			t.Error(n, e)
		}
	}
	// The step would be too large, but it ends the program.
	if got := toldStep(rule.Step(call(f, value(1500), parse("1")))); got != "call error 6" {
		t.Error(got)
	}
	// After a step that puts something out.
	x := prim("cons", parse("(emit 1)"), call(f, value(300)))
	if got := toldAfter(rule.After(x, 1)); !strings.HasSuffix(got, "out 1") {
		t.Error(got)
	}
	if a, b, c := toldRun(rule.Run(x, 2)), toldAfter(rule.After(x, 2)), toldTrace(rule.Trace(x, 2)); a+b+c != "error 8error 8error 8" {
		t.Error(a, b, c)
	}
	// The place gives way to a Var, and there is one more term around.
	for n, want := range map[int]api.Errno{1996: api.OK, 1997: api.ErrLarge} {
		if _, e := rule.Around(prim("cons", parse("(marks)"), terms(n+1))); e != want {
			t.Error(n, e)
		}
		if _, e := rule.Put(prim("cons", parse("(marks)"), terms(n)), []int{0}, parse("(+ 1 (marks))")); e != want {
			t.Error(n, e)
		}
	}
	// The rest of a run consists of one term more than the Handle, and what the handler is told comes in front of it.
	for n, want := range map[int]api.Errno{10: api.OK, 1992: api.OK, 1993: api.ErrLarge} { // (1 (fn () 1) (fn (v) (handle 1 (cons v e))))
		x := api.Term{Op: api.Handle, Args: []api.Term{parse("1"), prim("cons", parse("(signal (fn () 1))"), terms(n-1))}}
		s, e := rule.Step(x)
		if e != want || e == api.OK && size(s.Next) != n+8 {
			t.Error(n, size(x), size(s.Next), e)
		}
	}
}

// TestManyMarks: the list of marks has at most 2000 pieces, and may be too large as a term (P7.3).
func TestManyMarks(t *testing.T) {
	marked := func(marks ...api.Term) api.Term {
		x := parse("(marks)")
		for _, m := range slices.Backward(marks) {
			x = api.Term{Op: api.Mark, Args: []api.Term{m, x}}
		}
		return x
	}
	for n, want := range map[int]string{999: "OK", 1000: "error 8"} {
		l := slices.Repeat([]api.Term{parse("1")}, min(n, 990))
		l = append(l, quote(zeros(n-1-len(l)))) // and 2 pieces of the pair and the end
		if n == 999 {
			l[0] = quote(vec(num(1)))
		}
		s, e := rule.Step(marked(l...))
		if got := toldOr("OK", s.Err); e != api.OK || s.Rule != api.RuleMarks || got != want {
			t.Error(n, got, e)
		}
	}
	for n, want := range map[int]string{1998: "marks OK", 1999: "marks error 8"} {
		for _, l := range [][]api.Term{{quote(wide(n - 1))}, {quote(wide(n - 3)), parse("(fn () 1)")}} {
			s, e := rule.Step(marked(l...))
			if got := ruleName(s.Rule) + " " + toldOr("OK", s.Err); e != api.OK || got != want {
				t.Error(n, len(l), got, e)
			}
		}
	}
	big := value(990)
	if s, e := rule.Step(marked(big)); e != api.OK || s.Err != api.OK {
		t.Error(s.Err, e)
	}
	if s, e := rule.Step(marked(big, value(20))); e != api.ErrLarge || s.Rule != 0 {
		t.Error(s.Err, e)
	}
	if got := toldTerms(rule.Marked(marked(parse("1"), parse("(quote a)"), parse("(fn () 1)")))); got != "(fn () 1) (quote a) 1" {
		t.Error(got)
	}
}

// TestRuns: how runs end (P7.4, P7.5).
func TestRuns(t *testing.T) {
	for x, want := range map[string]string{
		"5": "5 in 0", "(fn (x) x)": "function in 0", "(cons (emit (fn () 1)) (emit 2))": "(function . 2) out function 2 in 2", "((fn (x) (x x)) (fn (x) (x x)))": "error 12 in 99", "(emit (emit 1))": "1 out 1 1 in 2", "(if (emit #f) (emit 1) (emit 2))": "2 out #f 2 in 3",
		"(handle (fn (x k) x) (+ 1 (signal 2)))": "2 in 2", "(handle (fn (x k) (k (k x))) (+ 1 (signal 2)))": "4 in 8", "(handle (fn (x) x) (signal 1))": "error 6 in 2", "(handle 3 (signal 1))": "error 4 in 2", "(handle (fn (x k) (handle (fn (y j) (cons x y)) (k 0))) (cons (signal 1) (signal 2)))": "(0 . 0) in 10", // the rest has its own handler
		"((rec f (n l) (if (eq n 0) l (f (- n 1) (cons (emit n) l)))) 3 ())": "(1 2 3) out 3 2 1 in 21", "(mark 1 ((fn (x) (cons (marks) x)) (marks)))": "((1) 1) in 5", "(apply (fn (x y) (- x y)) (cons 7 (cons 2 ())))": "5 in 4",
	} {
		if got := toldRun(rule.Run(parse(x), 99)); got != want {
			t.Error(x, got, "want", want)
		}
	}
	for _, n := range []int{0, 1, 2, 7, 100} {
		loop := parse("((rec f (n) (if (< n 1) n (f (- n 1)))) " + strconv.Itoa(n) + ")")
		r, steps, e := rule.Run(loop, api.RunSteps)
		if e != api.OK || r.Err != api.OK || steps != 4*n+3 || show(r.Value) != "0" {
			t.Error(n, steps, e)
		}
		l, e := rule.Trace(loop, steps)
		if _, again, _ := rule.Run(loop, steps); e != api.OK || len(l) != steps || again != steps {
			t.Error(n, len(l), again, e)
		}
		if r, again, _ := rule.Run(loop, steps-1); r.Err != api.ErrLimit || again != steps-1 {
			t.Error(n, again)
		}
	}
}
