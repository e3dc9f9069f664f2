package rule_test

import (
	"slices"
	"strconv"
	"strings"
	"testing"

	"caracole/api"
	"caracole/rule"
	"caracole/sample"
	"caracole/term"
)

// TestOne: of a term that is no value there is one step; but for signals nothing changes outside of its place, and the next term is closed (P7.6).
func TestOne(t *testing.T) {
	t.Parallel()
	one := parse("1")
	moved := 0
	for _, x := range programs(20, 2000) {
		s, e := rule.Step(x)
		again, f := rule.Step(sample.CopyTerm(x))
		if v := isValue(x); toldStep(s, e) != toldStep(again, f) || v != (e == api.ErrStuck) || !v && e != api.OK && e != api.ErrLarge {
			t.Error(text(x), toldStep(s, e), toldStep(again, f))
		}
		if e != api.OK || s.Err != api.OK {
			continue
		}
		moved++
		path := must[[]int](t)(rule.Find(x))
		if !closed(s.Next) {
			t.Error(text(x), text(s.Next))
		}
		if s.Rule != api.RuleSignal && !same(putAt(x, path, one), putAt(s.Next, path, one)) {
			t.Error(text(x), text(s.Next))
		}
	}
	if moved < 1000 {
		t.Error(moved)
	}
}

// TestParts: a run is its first n steps, and the run of the term after them (P7.7).
func TestParts(t *testing.T) {
	t.Parallel()
	r := sample.NewRandom(21)
	for _, x := range programs(22, 1500) {
		most := 200
		all, steps, e := rule.Run(x, most)
		if e != api.OK {
			continue
		}
		trace := must[[]int](t)(rule.Trace(x, most))
		n := r.Below(steps + 1)
		if all.Err != api.OK && n == steps && steps > 0 {
			n-- // the step that ends the program leads to no term
		}
		next, out, e := rule.After(x, n)
		if e != api.OK {
			t.Error(text(x), n, e)
		}
		rest, more, e := rule.Run(next, most-n)
		rest.Out = append(out, rest.Out...)
		last := must[[]int](t)(rule.Trace(next, most-n))
		first := must[[]int](t)(rule.Trace(x, n))
		if a, b := toldRun(all, steps, api.OK), toldRun(rest, more+n, e); a != b || !slices.Equal(trace, append(first, last...)) {
			t.Error(text(x), n, a, b)
		}
	}
}

// TestNames: a term with other names runs in the same way (P7.8).
func TestNames(t *testing.T) {
	t.Parallel()
	for i, x := range programs(23, 1500) {
		n := i % 40
		canon := must[api.Term](t)(term.Canon(x))
		for _, y := range []api.Term{canon, sample.Renamed(x), sample.Renamed(sample.Renamed(canon))} {
			a, b := toldRun(rule.Run(x, 150)), toldRun(rule.Run(y, 150))
			c, d := toldTrace(rule.Trace(x, 150)), toldTrace(rule.Trace(y, 150))
			if a != b || c != d {
				t.Error(text(x), text(y), a, b)
			}
			after, _, e := rule.After(x, n)
			other, _, f := rule.After(y, n)
			if is, _ := term.Same(after, other); !is || e != f {
				t.Error(text(x), text(after), text(other), e, f)
			}
		}
	}
}

// letsCalled is a term with calls of functions in the place of its Lets.
func letsCalled(t api.Term) api.Term {
	t = sample.CopyTerm(t)
	for i := range t.Args {
		t.Args[i] = letsCalled(t.Args[i])
	}
	if t.Op == api.Let {
		return call(function(t.Name, t.Args[1]), t.Args[0])
	}
	return t
}

// TestLet: Let is a call of a function with one parameter, and Apply a call (P7.9).
func TestLet(t *testing.T) {
	t.Parallel()
	for _, x := range programs(24, 1500) {
		y := letsCalled(x)
		a, b := toldRun(rule.Run(x, 150)), toldRun(rule.Run(y, 150))
		c, d := toldTrace(rule.Trace(x, 150)), toldTrace(rule.Trace(y, 150))
		if a != b && b != "error 8" && a != "error 8" || strings.ReplaceAll(c, "let", "call") != d && b != "error 8" && a != "error 8" {
			t.Error(text(x), a, b)
		}
	}
	r := sample.NewRandom(25)
	l := values()
	for _, f := range append(values(), sample.Terms("(fn (x y) (y x))", "(rec f (x y z) (f y (fn (x) z) x))")...) {
		for range 40 {
			var args []api.Term
			for range r.Below(5) {
				args = append(args, l[r.Below(len(l))])
			}
			a, e := rule.Step(call(f, args...))
			b, g := rule.Step(api.Term{Op: api.Apply, Args: []api.Term{f, listOf(args)}})
			if a.Rule != api.RuleCall || b.Rule != api.RuleApply || a.Err != b.Err || e != api.OK || g != api.OK || !same(a.Next, b.Next) {
				t.Error(text(f), text(listOf(args)), toldStep(a, e), toldStep(b, g))
			}
		}
	}
}

// TestWithin: as long as the place of a part is the place of the whole, and nothing signals or asks for marks, the whole goes as the part does (P7.10).
func TestWithin(t *testing.T) {
	t.Parallel()
	hole := nameVar("hole")
	frames := sample.Terms("(+ hole (car 1))", "(cons (fn () 1) hole)", "(if hole (car 1) 2)", "(let x hole (x x))", "((fn (x) x) hole (marks))", "(apply hole (signal 2))", "(mark 1 hole)", "(mark hole 1)", "(handle (fn (x k) 1) hole)", "(handle hole (signal 1))", "(emit hole)", "(signal hole)", "(mark 2 (cons hole (emit 5)))")
	steps := 0
	for i, x := range programs(26, 1500) {
		frame := frames[i%len(frames)]
		if i%2 == 0 {
			outside := frames[i/2%len(frames)]
			frame = putAt(outside, pathOf(outside, hole), frame)
		}
		path := pathOf(frame, hole)
		for range 12 {
			s, e := rule.Step(x)
			if e != api.OK || s.Rule == api.RuleSignal || s.Rule == api.RuleMarks {
				break
			}
			whole, e := rule.Step(putAt(frame, path, x))
			want := s
			if s.Err == api.OK {
				want.Next = putAt(frame, path, s.Next)
			}
			if toldStep(whole, e) != toldStep(want, api.OK) {
				t.Error(text(frame), text(x), toldStep(whole, e))
			}
			if s.Err != api.OK {
				break
			}
			steps++
			x = s.Next
		}
	}
	if steps < 3000 {
		t.Error(steps)
	}
}

// pathOf is the first path to a part of a term that is as another term.
func pathOf(t, part api.Term) []int {
	for _, path := range sample.TermPaths(t) {
		if same(at(t, path), part) {
			return path
		}
	}
	panic(text(t))
}

// has says whether there is a term with some Op in a term.
func has(t api.Term, ops ...int) bool {
	return slices.ContainsFunc(sample.TermPaths(t), func(path []int) bool { return slices.Contains(ops, at(t, path).Op) })
}

// TestHandle: a handler that calls k with what it is told does nothing, one that does not call it leaves the whole Handle, and one that calls it twice has the rest run twice (P7.11).
func TestHandle(t *testing.T) {
	t.Parallel()
	r := sample.NewRandom(27)
	l := values()
	under := func(handler string, x api.Term) api.Term {
		return api.Term{Op: api.Handle, Args: []api.Term{parse(handler), x}}
	}
	ended := 0
	for _, x := range programs(28, 3000) {
		path := placeOf(x)
		if isValue(x) || handlerOn(x, path) >= 0 {
			continue
		}
		v := l[r.Below(len(l))]
		told := putAt(x, path, api.Term{Op: api.Signal, Args: []api.Term{v}})
		plain := putAt(x, path, v)
		through := "(fn (x k) (k x))"
		a, _, e := rule.Run(under(through, told), 400)
		b, _, f := rule.Run(under(through, plain), 400)
		if e == api.OK && f == api.OK && a.Err != api.ErrLimit && b.Err != api.ErrLimit {
			ended++
			if toldRun(a, 0, e) != toldRun(b, 0, f) {
				t.Error(text(told), toldRun(a, 0, e), toldRun(b, 0, f))
			}
		}
		c, steps, g := rule.Run(under("(fn (x k) x)", told), 400)
		if toldRun(c, steps, g) != toldRun(api.Result{Value: shown(v)}, 2, api.OK) {
			t.Error(text(told), toldRun(c, steps, g))
		}
		if has(x, api.Signal, api.Marks, api.Handle) || b.Err != api.OK || f != api.OK {
			continue
		}
		twice, _, g := rule.Run(under("(fn (x k) (let y (k x) (cons y (k x))))", told), 900)
		want := api.Result{Value: sample.Pair(b.Value, b.Value), Out: append(slices.Clone(b.Out), b.Out...)}
		if g == api.OK && twice.Err != api.ErrLimit && toldRun(twice, 0, g) != toldRun(want, 0, api.OK) {
			t.Error(text(told), toldRun(twice, 0, g), toldRun(want, 0, api.OK))
		}
	}
	if ended < 500 {
		t.Error(ended)
	}
}

// TestMarks: Marks sees the marks around it, through all handlers (P7.12).
func TestMarks(t *testing.T) {
	r := sample.NewRandom(29)
	for range 500 {
		x := parse("(marks)")
		var want []api.Datum
		for range r.Below(8) {
			n := r.Below(100)
			switch r.Below(5) {
			case 0, 1:
				x, want = api.Term{Op: api.Mark, Args: []api.Term{quote(num(n)), x}}, append(want, num(n))
			case 2:
				x = api.Term{Op: api.Handle, Args: []api.Term{parse("(fn (x k) (k x))"), x}}
			case 3:
				x = prim("car", prim("cons", x, parse("(mark 5 6)")))
			default:
				x = call(parse("(fn (x y) x)"), x, parse("(mark 8 (marks))"))
			}
		}
		got, _, e := rule.Run(x, 200)
		if e != api.OK || got.Err != api.OK || show(got.Value) != show(sample.List(api.Datum{}, want...)) {
			t.Error(text(x), show(got.Value), got.Err, e)
		}
	}
	for x, want := range map[string]string{"(mark (marks) (marks))": "(())", "(mark 1 (mark (marks) (marks)))": "((1) 1)", "(mark 1 (handle (fn (x k) (cons (marks) (k x))) (mark 2 (cons (signal 3) (marks)))))": "((1) 3 2 1)", "(mark 1 (let f (mark 2 (fn () (marks))) (mark 3 (f))))": "(3 1)"} {
		if got := toldRun(rule.Run(parse(x), 99)); !strings.HasPrefix(got, want+" in") {
			t.Error(x, got)
		}
	}
}

// counted is a term that puts out numbers from n on, in the order of evaluation, and the next number.
func counted(r *sample.Random, depth, n int) (api.Term, int) {
	if depth == 0 || r.Below(4) == 0 {
		return api.Term{Op: api.Emit, Args: []api.Term{quote(num(n))}}, n + 1
	}
	var l []api.Term
	for range 2 {
		var x api.Term
		x, n = counted(r, depth-1, n)
		l = append(l, x)
	}
	switch r.Below(6) {
	case 0:
		return api.Term{Op: api.Let, Name: "x", Args: l}, n
	case 1:
		return api.Term{Op: api.If, Args: []api.Term{l[0], l[1], parse("(emit 77)")}}, n
	case 2:
		return api.Term{Op: api.Mark, Args: l}, n
	case 3:
		return api.Term{Op: api.Handle, Args: l}, n
	case 4:
		return call(parse("(fn (x y) (cons x y))"), l...), n
	}
	return prim("cons", l...), n
}

// TestEmit: what is put out is in the order of evaluation (P7.13).
func TestEmit(t *testing.T) {
	r := sample.NewRandom(30)
	for range 300 {
		x, n := counted(r, 4, 0)
		got, _, e := rule.Run(x, 500)
		var want []api.Datum
		for i := range n {
			want = append(want, num(i))
		}
		if e != api.OK || got.Err != api.OK || sample.ShowAll(got.Out) != sample.ShowAll(want) {
			t.Error(text(x), sample.ShowAll(got.Out), got.Err, e)
		}
	}
}

// TestFail: fail ends the program with its error, and nothing behind it is evaluated (P7.14).
func TestFail(t *testing.T) {
	r := sample.NewRandom(31)
	for i := range 300 {
		x, n := counted(r, 4, 0)
		at := r.Below(n)
		code := i%int(api.ErrStuck) + 1
		// The emit of a number becomes one that fails before.
		number := quote(num(at))
		x = putAt(x, pathOf(x, api.Term{Op: api.Emit, Args: []api.Term{number}}), parse("(emit (fail "+strconv.Itoa(code)+"))"))
		got, _, e := rule.Run(x, 500)
		if e != api.OK || got.Err != api.Errno(code) || len(got.Out) != at || show(got.Value) != "()" {
			t.Error(text(x), sample.ShowAll(got.Out), got.Err, e)
		}
	}
}

// TestAround: a call of Around with anything becomes the term with this at the place (P7.15).
func TestAround(t *testing.T) {
	t.Parallel()
	r := sample.NewRandom(32)
	l := values()
	some := programs(33, 200)
	for _, x := range programs(34, 1000) {
		if isValue(x) {
			continue
		}
		v := l[r.Below(len(l))]
		rest := must[api.Term](t)(rule.Around(x))
		want := putAt(x, must[[]int](t)(rule.Find(x)), v)
		s, e := rule.Step(call(rest, v))
		if e != api.OK || s.Rule != api.RuleCall || !same(s.Next, want) || !closed(rest) {
			t.Error(text(x), toldStep(s, e), text(want))
		}
		y := some[r.Below(len(some))]
		result, steps, e := rule.Run(y, 99)
		if e != api.OK || result.Err != api.OK || has(y, api.Signal) {
			continue
		}
		whole, _, e := rule.After(call(rest, y), steps+1)
		done, _, _ := rule.After(y, steps)
		if e != api.OK || !same(whole, putAt(x, must[[]int](t)(rule.Find(x)), done)) {
			t.Error(text(x), text(y), text(whole), e)
		}
	}
}
