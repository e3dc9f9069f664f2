package rule_test

import (
	"strings"
	"testing"

	"caracole/api"
	"caracole/rule"
)

// TestExamples are the examples of the chapter.
func TestExamples(t *testing.T) {
	check := func(what, got, want string) {
		t.Helper()
		if got != want {
			t.Error(what, got, "want", want)
		}
	}
	for x, want := range map[string]string{"(quote a)": "true", "(fn (x) x)": "true", "(cons 1 2)": "false", "(cons 1 (fn () 1))": "true", "(f 1)": "error 2"} {
		check(x, toldBool(rule.Value(parse(x))), want)
	}
	check("Show", toldDatum(rule.Show(parse("(cons 1 (fn () 1))"))), "(1 . function)")
	check("Show", toldDatum(rule.Show(parse("(+ 1 2)"))), "error 4")
	for x, want := range map[string]string{"(+ 1 (if #f 2 (* 3 4)))": "1", "(+ 1 (* 3 4))": "1", "(+ 1 2)": "", "5": "error 16"} {
		check(x, toldNumbers(rule.Find(parse(x))), want)
	}
	sum := parse("(+ 1 (* 3 4))")
	check("Put", told(rule.Put(sum, []int{1}, parse("12"))), "(+ 1 12)")
	check("Put", told(rule.Put(sum, []int{1, 0}, parse("7"))), "(+ 1 (* 7 4))")
	check("Put", told(rule.Put(sum, []int{2}, parse("5"))), "error 9")
	check("Around", told(rule.Around(sum)), "(fn (v) (+ 1 v))")
	check("Marked", toldTerms(rule.Marked(parse("(mark 1 (mark 2 (+ 3 4)))"))), "2 1")
	for x, want := range map[string]string{
		"(+ 1 (* 3 4))": "prim (+ 1 12)", "((fn (x y) (- x y)) 7 2)": "call (- 7 2)", "(car 5)": "prim error 4", "(emit 3)": "emit 3 out 3",
		"(+ 1 (handle 5 (* 2 (signal 3))))": "signal (+ 1 (5 3 (fn (v) (handle 5 (* 2 v)))))", "(signal 3)": "signal error 10",
	} {
		check(x, toldStep(rule.Step(parse(x))), want)
	}
	for most, want := range map[int]string{9: "13 in 2", 2: "13 in 2", 1: "error 12 in 1"} {
		check("Run", toldRun(rule.Run(sum, most)), want)
	}
	check("Run", toldRun(rule.Run(parse("(handle (fn (x k) (+ (k x) (k 1))) (* 2 (signal 5)))"), 99)), "12 in 9")
	check("Run", toldRun(rule.Run(parse("((rec f (n) (if (< n 1) (quote done) (f (- n 1)))) 2)"), 99)), "done in 11")
	end := parse("(+ (emit 1) (car 2))")
	check("After", toldAfter(rule.After(end, 9)), "(+ 1 (car 2)) out 1")
	check("Trace", toldTrace(rule.Trace(end, 9)), "emit prim")
	check("Run", toldRun(rule.Run(end, 9)), "error 4 out 1 in 2")
}

// TestErrors: a function returns the first error of the chapter's order (R1).
func TestErrors(t *testing.T) {
	bad := api.Term{Op: 99}
	open := parse("(f 1)")
	both := call(open, bad) // not valid, and not closed
	one, two := parse("1"), parse("(+ 1 2)")
	path := []int{5}
	for i, x := range []struct {
		t    api.Term
		want string
	}{{both, "error 4"}, {open, "error 2"}, {bad, "error 4"}, {parse("(fn (x) (let y x (cons x z)))"), "error 2"}, {parse("(let x x 1)"), "error 2"}} {
		for k, got := range everything(x.t, bad, path, -1) {
			if got != x.want {
				t.Error(i, k, got)
			}
		}
	}
	for _, x := range []struct {
		t, s api.Term
		path []int
		want string
	}{
		{open, bad, path, "error 2"}, {two, both, path, "error 4"}, {two, open, path, "error 2"}, {two, one, path, "error 9"}, {two, one, []int{-1}, "error 9"}, {two, one, []int{0, 0}, "error 9"}, {one, one, []int{0}, "error 9"},
		{terms(1999), terms(1999), path, "error 9"}, {prim("cons", one, terms(1997)), two, []int{0}, "error 8"}, {prim("cons", one, terms(1997)), two, []int{2}, "error 9"}, {two, one, nil, "1"}, {two, two, []int{1}, "(+ 1 (+ 1 2))"},
	} {
		if got := told(rule.Put(x.t, x.path, x.s)); got != x.want {
			t.Error(text(x.t), text(x.s), x.path, got, "want", x.want)
		}
	}
	for _, most := range []int{-1, api.RunSteps + 1, -1 << 63, 1<<63 - 1} {
		for _, x := range []api.Term{one, two, parse("(let x #(1) (x x))")} {
			a, b, c := toldRun(rule.Run(x, most)), toldAfter(rule.After(x, most)), toldTrace(rule.Trace(x, most))
			if got := strings.Join([]string{a, b, c}, ", "); got != "error 13, error 13, error 13" {
				t.Error(most, got)
			}
		}
	}
	for _, most := range []int{0, api.RunSteps} {
		if got := toldRun(rule.Run(two, most)); got != map[bool]string{true: "error 12 in 0", false: "3 in 1"}[most == 0] {
			t.Error(most, got)
		}
	}
}

// TestZeros: with an error all other results are zero (R3).
func TestZeros(t *testing.T) {
	for _, x := range []api.Term{{Op: 99}, parse("x"), parse("(emit x)")} {
		v, _ := rule.Value(x)
		d, _ := rule.Show(x)
		l, _ := rule.Find(x)
		p, _ := rule.Put(x, nil, parse("1"))
		a, _ := rule.Around(x)
		m, _ := rule.Marked(x)
		s, _ := rule.Step(x)
		r, n, _ := rule.Run(x, 9)
		next, out, _ := rule.After(x, 9)
		trace, _ := rule.Trace(x, 9)
		if v || show(d) != "()" || l != nil || !same(p, api.Term{}) || !same(a, api.Term{}) || m != nil || toldStep(s, api.OK) != "call ()" || toldRun(r, n, api.OK) != "() in 0" || !same(next, api.Term{}) || out != nil || trace != nil {
			t.Error(text(x))
		}
	}
}
