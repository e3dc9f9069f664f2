package rule_test

import (
	"slices"
	"strings"
	"testing"

	"caracole/api"
	"caracole/rule"
	"caracole/sample"
	"caracole/term"
)

// TestMemory: no result shares memory with an argument, with another one, nor with itself (R4).
func TestMemory(t *testing.T) {
	t.Parallel()
	shared := parse("(handle (fn (x k) (cons (k x) (k x))) (mark (quote (1 2)) (let y (emit (cons (emit (quote (3 4))) (fn (x y) (quote (5))))) (cons (signal y) (cons y (marks))))))")
	for i, x := range append(programs(40, 400), slices.Repeat([]api.Term{shared}, 40)...) {
		m := sample.Memory{}
		apart := m.Terms(x)
		for range 2 {
			d, _ := rule.Show(x)
			path, _ := rule.Find(x)
			p, _ := rule.Put(x, path, x)
			a, _ := rule.Around(x)
			l, _ := rule.Marked(x)
			s, _ := rule.Step(x)
			r, _, _ := rule.Run(x, i)
			next, out, _ := rule.After(x, i%40)
			trace, _ := rule.Trace(x, i)
			apart = m.Data(d, r.Value) && m.Numbers(path) && m.Terms(p, a, s.Next, next) && m.TermList(l) && m.DataList(s.Out) && m.DataList(r.Out) && m.DataList(out) && m.Numbers(trace) && apart
		}
		if !apart {
			t.Error(text(x))
		}
	}
	hollow := sample.HollowTerm(parse("(mark () (car (quote (1 ()))))"))
	m := sample.Memory{}
	m.Terms(hollow)
	l, _ := rule.Marked(hollow)
	next, _, _ := rule.After(hollow, 1)
	if !m.TermList(l) || !m.Terms(next) {
		t.Error("memory is shared")
	}
}

// TestArgumentsStay: arguments are not changed, not even the memory behind them, and calls with the same ones return the same (R2, R4).
func TestArgumentsStay(t *testing.T) {
	t.Parallel()
	r := sample.NewRandom(41)
	for _, x := range programs(42, 300) {
		s := r.Program(2)
		path := sample.TermPaths(x)[r.Below(size(x))]
		before := text(call(x, s)) + numbers(path)
		first := everything(x, s, path, 60)
		again := everything(sample.CopyTerm(x), s, path, 60)
		if after := text(call(x, s)) + numbers(path); before != after || !slices.Equal(first, again) {
			t.Error(before, after, first, again)
		}
	}
	// What lies in memory behind a slice is neither seen nor written.
	bad := api.Term{Op: 99}
	store := []api.Term{parse("(fn (x) x)"), parse("(+ 1 2)"), bad}
	path := []int{1, 0, 7}
	want := everything(parse("((fn (x) x) (+ 1 2))"), parse("5"), []int{1, 0}, 9)
	if got := everything(api.Term{Op: api.App, Args: store[:2]}, parse("5"), path[:2], 9); !slices.Equal(got, want) || store[2].Op != 99 || text(store[1]) != "(+ 1 2)" || path[2] != 7 {
		t.Error(got, store, path)
	}
}

// TestEmptyAndNil: a nil slice and an empty one mean the same (R4).
func TestEmptyAndNil(t *testing.T) {
	t.Parallel()
	for _, x := range append(programs(43, 300), parse("((fn () (if (eq (quote #()) (vector ())) (marks) 1)))"), parse("(if (eq () (marks)) (fn () 1) 2)")) {
		for most := range 4 {
			a, b := everything(x, parse("1"), nil, most*most), everything(sample.HollowTerm(x), sample.HollowTerm(parse("1")), []int{}, most*most)
			if !slices.Equal(a, b) {
				t.Error(a, b)
			}
		}
	}
}

// TestAnyValue: functions return whatever the fields of their arguments are, and what they return is valid (P1, R3, R5).
func TestAnyValue(t *testing.T) {
	t.Parallel()
	r := sample.NewRandom(44)
	faulty, open := 0, 0
	for range 3000 {
		x, s := r.Program(4), r.Program(2)
		if r.Below(4) == 0 {
			x = r.Term(3)
		}
		x = sample.CopyTerm(x)
		for range r.Below(3) {
			r.Wild(&x)
			r.Wild(&s)
		}
		path := []int{r.Below(4) - 1, r.Below(4) - 1}[r.Below(2):]
		all := everything(x, s, path, r.Below(50)-1)
		want := toldOr("", term.Check(x))
		if want == "" && !closed(x) {
			want = "error 2"
			open++
		}
		if want != "" {
			faulty++
		}
		for i, got := range all {
			if want != "" && got != want || strings.Contains(got, "with") || strings.Contains(got, "??") {
				t.Error(i, text(x), text(s), got, want)
			}
		}
		if next, _, e := rule.After(x, 5); e == api.OK && !closed(next) {
			t.Error(text(x), text(next))
		}
		if p, e := rule.Put(x, path, s); e == api.OK && !closed(p) {
			t.Error(text(x), text(p))
		}
	}
	if faulty < 700 || faulty > 2500 || open < 200 {
		t.Error(faulty, open)
	}
	// A term that is a part of itself, and one with a datum that is.
	ring := api.Term{Op: api.App, Args: make([]api.Term, 2)}
	ring.Args[0], ring.Args[1] = ring, ring
	d := api.Datum{Kind: api.Pair, Parts: make([]api.Datum, 2)}
	d.Parts[0], d.Parts[1] = d, d
	for i, x := range []api.Term{ring, quote(d), call(parse("1"), ring)} {
		for k, got := range []string{toldBool(rule.Value(x)), told(rule.Put(parse("1"), nil, x)), toldRun(rule.Run(x, 9)), told(rule.Around(x))} {
			if got != "error 8" {
				t.Error(i, k, got)
			}
		}
	}
}

// TestDeep: terms and data as deep as they can be (P1).
func TestDeep(t *testing.T) {
	t.Parallel()
	x := parse("(emit 1)")
	for range 1997 {
		x = prim("not", x)
	}
	path := must[[]int](t)(rule.Find(x))
	if len(path) != 1997 {
		t.Error(len(path))
	}
	r, steps, e := rule.Run(x, api.RunSteps)
	if got := toldRun(r, steps, e); got != "#f out 1 in 1998" {
		t.Error(got)
	}
	if got := must[api.Term](t)(rule.Around(x)); size(got) != 1999 {
		t.Error(size(got))
	}
	for i, deep := range []api.Datum{sample.Deep(2000), zeros(999)} {
		if d, e := rule.Show(quote(deep)); !sample.Same(d, deep) || e != api.OK {
			t.Error(i, e)
		}
		r, _, e := rule.Run(api.Term{Op: api.Emit, Args: []api.Term{quote(deep)}}, 9)
		if e != api.OK || !sample.Same(r.Value, deep) || !sample.Same(r.Out[0], deep) {
			t.Error(i, e)
		}
	}
	f := parse("(fn () 1)")
	nested := f
	for range 600 {
		nested = prim("cons", nested, f)
	}
	if v, e := rule.Value(nested); !v || e != api.OK {
		t.Error(v, e)
	}
	d, e := rule.Show(nested)
	if e != api.OK || len(sample.Paths(d)) != 1201 {
		t.Error(e)
	}
	// Functions in one another, in which a name comes to the innermost place.
	inner := nameVar("x")
	for range 1900 {
		inner = api.Term{Op: api.Fn, Args: []api.Term{inner}}
	}
	s, e := rule.Step(api.Term{Op: api.Let, Name: "x", Args: []api.Term{f, inner}})
	if e != api.OK || size(s.Next) != 1902 {
		t.Error(size(s.Next), e)
	}
}

// TestLargeBodies: names are replaced in large bodies, part by part, as in small ones.
func TestLargeBodies(t *testing.T) {
	t.Parallel()
	r := sample.NewRandom(45)
	name := nameVar("x1")
	for range 100 {
		var parts []api.Term
		for len(parts) < 7 {
			part := r.Program(7)
			if n := size(part); n < 75 || n > 250 {
				continue
			}
			paths := sample.TermPaths(part)
			for range 9 { // some of these paths lead nowhere then
				if path := paths[r.Below(len(paths))]; leads(part, path) {
					part = putAt(part, path, name)
				}
			}
			parts = append(parts, part)
		}
		body := api.Term{Op: api.App, Args: parts}
		if r.Below(2) == 0 {
			body = api.Term{Op: api.Let, Name: "x1", Args: []api.Term{parts[0], {Op: api.App, Args: parts[1:]}}}
		}
		v := parse("(fn (x y) (quote (1 2)))")
		want, f := term.Subst(body, "x1", v)
		s, e := rule.Step(api.Term{Op: api.Let, Name: "x1", Args: []api.Term{v, body}})
		if e != f || !same(s.Next, want) || size(want) < 200 {
			t.Error(size(body), size(s.Next), e, f)
		}
	}
}

// leads says whether a path leads to a part of a term.
func leads(t api.Term, path []int) bool {
	for _, i := range path {
		if i >= len(t.Args) {
			return false
		}
		t = t.Args[i]
	}
	return true
}

// TestSoon: runs of many steps take no more time than there is.
func TestSoon(t *testing.T) {
	t.Parallel()
	x := parse("((rec up (m) (if (< m 1) ((rec f (n) (if (< n 1) n (f (- n 1)))) 40000) (+ 1 (up (- m 1))))) 300)")
	if got := toldRun(rule.Run(x, api.RunSteps)); got != "300 in 161506" {
		t.Error(got)
	}
}
