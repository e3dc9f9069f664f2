package machine_test

import (
	"testing"

	"caracole/api"
	"caracole/machine"
)

// TestExamples are the examples of the chapter.
func TestExamples(t *testing.T) {
	check := func(what, got, want string) {
		t.Helper()
		if got != want {
			t.Error(what, got, "want", want)
		}
	}
	sum := parse("(+ 1 2)")
	s, e := machine.Load(sum)
	check("Load", toldState(s, e), "eval (+ 1 2)")
	for _, want := range []string{"eval 1 on (+ 1 2)", "back 1 on (+ 1 2)", "eval 2 on (+ 1 2) / 1"} {
		s, e = machine.Step(s)
		check("Step", toldState(s, e), want)
	}
	s, e = machine.Load(sum)
	check("Load", toldState(s, e), "eval (+ 1 2)")
	end, steps, e := machine.Go(s, 99)
	check("Go", toldGo(end, steps, e), "back 3 in 5")
	check("Over", toldBool(machine.Over(end)), "true")
	check("Result", toldResult(machine.Result(end)), "3")
	check("Check", toldOr("", machine.Check(api.MachineState{Mode: 2})), "error 1")
	check("Check", toldOr("", machine.Check(api.MachineState{Term: nameVar("x")})), "error 1")
	s, e = machine.Load(parse("(let x 5 (+ x (car x)))"))
	check("Load", toldState(s, e), "eval (let x 5 (+ x (car x)))")
	end, steps, e = machine.Go(s, 10)
	check("Go", toldGo(end, steps, e), "failed 4 in 9")
	check("Result", toldResult(machine.Result(end)), "error 4")
	check("Unload", told(machine.Unload(end)), "error 16")
	middle, _, _ := machine.Go(s, 6)
	check("Unload", told(machine.Unload(middle)), "(+ 5 (car 5))")
	for most, want := range map[int]string{5: "3 in 5", 4: "error 12 in 4", -1: "error 13"} {
		check("Run", toldRun(machine.Run(sum, most)), want)
	}
	check("Run", toldRun(machine.Run(nameVar("x"), 9)), "error 2")
	check("Run", toldRun(machine.Run(parse("(handle (fn (x k) (k (k x))) (* 2 (signal 5)))"), 99)), "20 in 22")
	check("Deep", toldInt(machine.Deep(parse("(+ 1 (+ 2 3))"), 99)), "2")
	check("Deep", toldInt(machine.Deep(parse("((rec f (n) (if (< n 1) 0 (f (- n 1)))) 9)"), 999)), "2")
	check("Turns", toldTurns(machine.Turns(parse("(if #t 1 2)"), 9)), "if quote if quote")
	check("Turns", toldTurns(machine.Turns(parse("(emit 7)"), 9)), "emit quote emit")
}

// TestStates are states in full, one after the other: what the environments of frames lose, what a Rec knows, and what a rest keeps.
func TestStates(t *testing.T) {
	for x, want := range map[string][]string{
		"(let x 1 (cons x (cons x 2)))": {
			"eval (let x 1 (cons x (cons x 2)))", "eval 1 on (let x 1 (cons x (cons x 2)))", "back 1 on (let x 1 (cons x (cons x 2)))",
			"eval (cons x (cons x 2)) x=1", "eval x x=1 on (cons x (cons x 2)) x=1", "back 1 on (cons x (cons x 2)) x=1",
			"eval (cons x 2) x=1 on (cons x (cons x 2)) / 1", "eval x x=1 on (cons x 2) on (cons x (cons x 2)) / 1", "back 1 on (cons x 2) on (cons x (cons x 2)) / 1",
			"eval 2 on (cons x 2) / 1 on (cons x (cons x 2)) / 1", "back 2 on (cons x 2) / 1 on (cons x (cons x 2)) / 1", "back (1 . 2) on (cons x (cons x 2)) / 1", "back (1 1 . 2)",
		},
		"((rec f (x) (if x f 3)) 1)": {
			"eval ((rec f (x) (if x f 3)) 1)", "eval (rec f (x) (if x f 3)) on ((rec f (x) (if x f 3)) 1)", "back [fn (rec f (x) (if x f 3))] on ((rec f (x) (if x f 3)) 1)",
			"eval 1 on ((rec f (x) (if x f 3)) 1) / [fn (rec f (x) (if x f 3))]", "back 1 on ((rec f (x) (if x f 3)) 1) / [fn (rec f (x) (if x f 3))]",
			"eval (if x f 3) f=[fn (rec f (x) (if x f 3))] x=1", "eval x x=1 on (if x f 3) f=[fn (rec f (x) (if x f 3))]", "back 1 on (if x f 3) f=[fn (rec f (x) (if x f 3))]",
			"eval f f=[fn (rec f (x) (if x f 3))]", "back [fn (rec f (x) (if x f 3))]",
		},
	} {
		s, e := machine.Load(parse(x))
		for _, due := range want {
			if toldState(s, e) != due {
				t.Error(x, toldState(s, e), "want", due)
			}
			s, e = machine.Step(s)
		}
	}
	for x, want := range map[string]map[int]string{
		"(mark 1 (handle (fn (x k) k) (mark 2 (cons (marks) (signal (emit 3))))))": {
			11: "back (2 1) on (cons (marks) (signal (emit 3))) on (mark 2 (cons (marks) (signal (emit 3)))) / 2 on (handle (fn (x k) k) (mark 2 (cons (marks) (signal (emit 3))))) / [fn (fn (x k) k)] on (mark 1 (handle (fn (x k) k) (mark 2 (cons (marks) (signal (emit 3)))))) / 1",
			17: "eval k k=[rest (handle (fn (x k) k) (mark 2 (cons (marks) (signal (emit 3))))) / [fn (fn (x k) k)]; (mark 2 (cons (marks) (signal (emit 3)))) / 2; (cons (marks) (signal (emit 3))) / (2 1);] on (mark 1 (handle (fn (x k) k) (mark 2 (cons (marks) (signal (emit 3)))))) / 1 out 3",
			99: "back [rest (handle (fn (x k) k) (mark 2 (cons (marks) (signal (emit 3))))) / [fn (fn (x k) k)]; (mark 2 (cons (marks) (signal (emit 3)))) / 2; (cons (marks) (signal (emit 3))) / (2 1);] out 3",
		},
		"(let x 1 (let f (fn (y) (cons x y)) (f 2)))": {
			5: "back [fn (fn (y) (cons x y)) x=1] on (let f (fn (y) (cons x y)) (f 2))", 6: "eval (f 2) f=[fn (fn (y) (cons x y)) x=1]",
			11: "eval (cons x y) x=1 y=2", 12: "eval x x=1 on (cons x y) y=2", 14: "eval y y=2 on (cons x y) / 1", 99: "back (1 . 2)",
		},
		"(let x 1 (let y 2 (let x y (let y 3 (fn (z) (y x))))))":                   {99: "back [fn (fn (z) (y x)) x=2 y=3]"},
		"(let x 1 (let y (cons (fn () 1) 2) (let x (cons y x) (cons (car x) 5))))": {99: "back [pair [pair [fn (fn () 1)] 2] 5]"},
		"(let f (rec f (f1) (let f1 f (fn () (f f1)))) (f 1))":                     {99: "back [fn (fn () (f f1)) f=[fn (rec f (f1) (let f1 f (fn () (f f1))))] f1=[fn (rec f (f1) (let f1 f (fn () (f f1))))]]"},
	} {
		for n, due := range want {
			if got := stateText(loaded(parse(x), n)); got != due {
				t.Error(x, n, got, "want", due)
			}
		}
	}
}
