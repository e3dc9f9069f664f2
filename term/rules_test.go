package term_test

import (
	"slices"
	"testing"

	"caracole/api"
	"caracole/datum"
	"caracole/sample"
	"caracole/term"
)

// memory is the places in memory where slices begin that belong to something.
type memory map[any]bool

// add fails if a slice of some terms is one that is known.
func (m memory) add(t *testing.T, all ...api.Term) {
	t.Helper()
	for _, x := range all {
		if cap(x.Names) > 0 {
			m.slice(t, &x.Names[:1][0], x)
		}
		if cap(x.Args) > 0 {
			m.slice(t, &x.Args[:1][0], x)
		}
		m.data(t, x, x.Data)
		m.add(t, x.Args...)
	}
}

func (m memory) data(t *testing.T, x api.Term, all ...api.Datum) {
	t.Helper()
	for _, d := range all {
		if cap(d.Parts) > 0 {
			m.slice(t, &d.Parts[:1][0], x)
		}
		m.data(t, x, d.Parts...)
	}
}

func (m memory) slice(t *testing.T, first any, x api.Term) {
	t.Helper()
	if m[first] {
		t.Error("memory is shared at", text(x))
	}
	m[first] = true
}

// TestMemory: no result shares memory with an argument, with another one, nor with itself (R4).
func TestMemory(t *testing.T) {
	get := must[api.Term](t)
	r := sample.NewRandom(31)
	for _, x := range append(terms(32, 100), parse("(fn (y) (x x (quote (1 #(2))) (rec f (a y) (x))))")) {
		s := call(r.Term(2), parse("(fn (y x) (quote (a #(b))))"))
		m := memory{}
		m.add(t, x, s)
		m.add(t, get(term.Canon(x)), get(term.Subst(x, "x", s)), get(term.Subst(x, "nowhere", s)), get(term.SubstAll(x, []string{"x", "y"}, []api.Term{s, s})), get(term.SubstAll(x, nil, nil)))
		for _, path := range allPaths(x) {
			m.add(t, get(term.At(x, path)), get(term.Put(x, path, s)))
		}
		d := must[api.Datum](t)(term.ToDatum(x))
		m.data(t, x, d)
		m.add(t, get(term.OfDatum(d)))
	}
	// The memory of a list without elements is memory, too.
	hollow := make([]api.Datum, 0, 3)
	if x := get(term.OfDatum(api.Datum{Parts: hollow})); cap(x.Data.Parts) > 0 {
		t.Error("memory is shared")
	}
	// Of what is given twice both places are apart.
	shared := parse("(f (quote (1 2)) (fn (x) x))")
	m := memory{}
	m.add(t, get(term.Canon(call(shared, shared))), get(term.SubstAll(call(variable("x"), variable("x"), variable("y")), []string{"x", "y"}, []api.Term{shared, shared})))
	two := vec(num(1), vec())
	for op, args := range map[string][]api.Datum{"cons": {two, two}, "car": {pair(two, two)}, "cdr": {pair(two, two)}, "vector": {list(two, two)}, "items": {vec(two, two)}} {
		d := must[api.Datum](t)(term.Delta(op, args))
		m := memory{}
		m.data(t, api.Term{}, d)
		scribble(d)
		if show(two) != "#(1 #())" {
			t.Error(op, show(two))
		}
	}
}

// scribble writes into all memory of a datum.
func scribble(d api.Datum) {
	for i := range d.Parts {
		scribble(d.Parts[i])
		d.Parts[i] = num(77)
	}
}

// everything is what all functions return for some arguments.
func everything(x, s api.Term, names []string, l []api.Term, path []int, d api.Datum) []string {
	n, m, e := term.Size(x)
	is, f := term.Same(x, s)
	return []string{
		toldOr("", term.Check(x)), toldData(term.ToDatum(x)), toldOr(show(list(num(n), num(m))), e), toldNames(term.Free(x)), toldOr(show(flag(map[bool]int{true: 1}[is])), f), told(term.Canon(x)),
		told(term.At(x, path)), told(term.Put(x, path, s)), toldNames(term.Bound(x, path)), toldOr(term.Fresh("x", names)), told(term.Subst(x, "x", s)), told(term.SubstAll(x, names, l)),
		told(term.OfDatum(d)), toldData(term.Delta("cons", []api.Datum{d, d})), toldData(term.Delta("items", []api.Datum{d})),
	}
}

// TestArgumentsStay: arguments are not changed, not even the memory behind them, and calls with the same ones return the same (R2, R4).
func TestArgumentsStay(t *testing.T) {
	r := sample.NewRandom(33)
	for _, x := range terms(34, 200) {
		s := r.Term(2)
		names, l, _ := someExchange(r)
		path := allPaths(x)[r.Below(size(x))]
		d := vec(sample.TermData(s))
		before := text(call(x, append(l, s)...)) + show(d)
		first := everything(x, s, names, l, path, d)
		if again := everything(x, s, names, l, path, d); !slices.Equal(first, again) {
			t.Error(first, again)
		}
		if after := text(call(x, append(l, s)...)) + show(d); after != before {
			t.Error(before, after)
		}
	}
	// What lies in memory behind a slice is neither seen nor written.
	bad := api.Term{Op: 99}
	store := []api.Term{variable("x"), variable("y"), bad, bad}
	params := []string{"y", "z", "1", "2"}
	parts := []api.Datum{sym("x"), num(2), {Kind: 99}}
	x := api.Term{Op: api.Fn, Names: params[:2], Args: []api.Term{{Op: api.App, Args: store[:2]}, bad}[:1]}
	q := api.Term{Op: api.Quote, Data: api.Datum{Kind: api.Vec, Parts: parts[:2]}}
	names, path := []string{"x", "y", "1"}, []int{0, 0, 99}
	got := everything(x, q, names[:2], []api.Term{q, x, bad}[:2], path[:2], q.Data)
	want := []string{"", "(fn (y z) (x y))", "(4 3)", "x", "#f", "(fn (v1 v2) (x v1))", "x", "(fn (y z) ((quote #(x 2)) y))", "y z", "x1", "(fn (y z) ((quote #(x 2)) y))", "(fn (y z) ((quote #(x 2)) y))", "error 1", "(#(x 2) . #(x 2))", "(x 2)"}
	if !slices.Equal(got, want) {
		t.Error(got, "want", want)
	}
	if text(call(store[0], store[1:2]...)) != "(x y)" || store[2].Op != 99 || store[3].Op != 99 || !slices.Equal(params, []string{"y", "z", "1", "2"}) || parts[2].Kind != 99 || !slices.Equal(names, []string{"x", "y", "1"}) || !slices.Equal(path, []int{0, 0, 99}) {
		t.Error(store, params, parts, names, path)
	}
}

// TestEmptyAndNil: a nil slice and an empty one mean the same (R4).
func TestEmptyAndNil(t *testing.T) {
	hollow := func(x api.Term) api.Term {
		x.Names, x.Data.Parts = append([]string{}, x.Names...), []api.Datum{}
		x.Args = append([]api.Term{}, x.Args...)
		return x
	}
	a := call(hollow(variable("x")), hollow(api.Term{Op: api.Marks}), hollow(quote(api.Datum{})), hollow(api.Term{Op: api.Fn, Args: []api.Term{hollow(variable("y"))}}))
	b := parse("(x (marks) () (fn () y))")
	for _, path := range [][]int{nil, {}} {
		one := everything(a, a, []string{}, []api.Term{}, path, api.Datum{Parts: []api.Datum{}})
		if two := everything(b, b, nil, nil, path, api.Datum{}); !slices.Equal(one, two) {
			t.Error(one, two)
		}
	}
	if is, e := term.Same(a, b); !is || e != api.OK {
		t.Error(is, e)
	}
	if d, e := term.Delta("eq", []api.Datum{{Parts: []api.Datum{}}, {}}); show(d) != "#t" || e != api.OK {
		t.Error(show(d), e)
	}
}

// wild changes some field of some term.
func wild(r *sample.Random, t *api.Term) {
	for len(t.Args) > 0 && r.Below(3) > 0 {
		t = &t.Args[r.Below(len(t.Args))]
	}
	switch r.Below(6) {
	case 0:
		t.Op = r.Below(18) - 2
	case 1:
		t.Name = []string{"", "x", "car", "cons", "if", "X"}[r.Below(6)]
	case 2:
		t.Names = append(t.Names, []string{"", "x", "y", "if", "X"}[r.Below(5)])
	case 3:
		t.Args = append(t.Args, variable("x"))
	case 4:
		t.Args = t.Args[:len(t.Args)/2]
	default:
		t.Data = []api.Datum{{Kind: 9}, num(1), vec(), {Parts: []api.Datum{{}}}, sym("X"), str("s")}[r.Below(6)]
	}
}

// TestAnyValue: functions return whatever the fields of their arguments are, and what they return is valid (P1, R3, R5).
func TestAnyValue(t *testing.T) {
	r := sample.NewRandom(35)
	faulty := 0
	for range 4000 {
		x, s := r.Term(4), r.Term(2)
		for range r.Below(3) {
			wild(r, &x)
			wild(r, &s)
		}
		if term.Check(x) != api.OK {
			faulty++
		}
		names := []string{r.Name(), []string{"", "if", "y", "x"}[r.Below(4)]}
		path := []int{r.Below(4) - 1, r.Below(4) - 1}[r.Below(2):]
		for i, call := range []func() (api.Term, api.Errno){
			func() (api.Term, api.Errno) { return term.Canon(x) },
			func() (api.Term, api.Errno) { return term.At(x, path) },
			func() (api.Term, api.Errno) { return term.Put(x, path, s) },
			func() (api.Term, api.Errno) { return term.Subst(x, names[1], s) },
			func() (api.Term, api.Errno) { return term.SubstAll(x, names, []api.Term{s, x}) },
			func() (api.Term, api.Errno) { return term.OfDatum(s.Data) },
		} {
			got, e := call()
			if e < api.OK || e > api.ErrStuck || e == api.OK && term.Check(got) != api.OK || e != api.OK && !same(got, api.Term{}) {
				t.Error(i, text(x), text(s), text(got), e)
			}
		}
		d, e := term.ToDatum(x)
		if e != term.Check(x) || e == api.OK && datum.Check(d) != api.OK {
			t.Error(text(x), show(d), e)
		}
		op := slices.Concat(sample.Unary(), sample.Binary(), []string{"", "if"})[r.Below(28)]
		args := []api.Datum{x.Data, s.Data, r.Datum(2)}[:r.Below(4)]
		if d, e := term.Delta(op, args); e < api.OK || e > api.ErrStuck || e == api.OK && datum.Check(d) != api.OK || e != api.OK && !sameData(d, api.Datum{}) {
			t.Error(op, show(list(args...)), show(d), e)
		}
	}
	if faulty < 1000 || faulty > 3500 {
		t.Error(faulty)
	}
}

// TestSideBySide: of several errors in arguments that are looked at at the same time the first one is returned, each time (R1, R6).
func TestSideBySide(t *testing.T) {
	x := call(bushy(285, variable("x")), slices.Repeat([]api.Term{bushy(285, variable("X"))}, 6)...)
	for i := range x.Args[1:] {
		deepest := &x.Args[1+i]
		for len(deepest.Args) > 0 {
			deepest = &deepest.Args[len(deepest.Args)-1]
		}
		deepest.Op = api.If
	}
	x.Args[1] = bushy(285, parse("1"))
	x.Args[2] = bushy(285, api.Term{Op: api.Quote, Data: num(api.NumMost + 1)})
	for range 200 {
		if e := term.Check(x); e != api.ErrValue {
			t.Fatal(e)
		}
	}
}
