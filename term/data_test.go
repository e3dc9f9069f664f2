package term_test

import (
	"strings"
	"testing"

	"caracole/api"
	"caracole/datum"
	"caracole/sample"
	"caracole/term"
)

func TestOfDatum(t *testing.T) {
	for _, s := range []string{
		"5", "()", "#f", `"if"`, "x", "macro", "(quote x)", "(quote (1 . 2))", "(quote #(if))", "(fn () 1)", "(fn (x y) (x y))", "(if 1 2 3)", "(let x 1 x)",
		"(rec f () f)", "(rec f (x y z) (f x))", "(+ 1 2)", "(car x)", "(apply f l)", "(handle h e)", "(signal 1)", "(mark 1 2)", "(marks)", "(emit x)",
		"(f)", "(f 1 2 3 4 5 6)", "(() 1)", `("s" #t)`, "((quote if) 1)", "((fn (x) x) (let y 2 y))", "(macro m ())", "((marks))"} {
		x, e := term.OfDatum(read(s))
		if e != api.OK || !same(x, parse(s)) || text(x) != s {
			t.Error(s, text(x), e)
		}
	}
	for s, want := range map[string]string{"(quote 5)": "5", "(quote ())": "()", "(quote #t)": "#t", `(quote "a")`: `"a"`, "(f (quote 1) (quote (quote 1)))": "(f 1 (quote (quote 1)))"} {
		if x, e := term.OfDatum(read(s)); text(x) != want || e != api.OK {
			t.Error(s, text(x), e)
		}
	}
}

// TestOfDatumErrors: each datum has its errors before those in it, and of one datum the first one counts.
func TestOfDatumErrors(t *testing.T) {
	for _, x := range []struct {
		texts string
		want  api.Errno
	}{
		{"#(); #(1); (f . x); (if . 1); (if 1 2 . 3); ((f . x)); (f 1 #(if)); (f (1 . 2))", api.ErrForm},
		{"if; car; quote; marks; emit; (f if); (if 1 car 2); (emit fn); (f #t +)", api.ErrName},
		{"(quote); (fn (x)); (fn); (if 1 2); (if); (let x 1); (let); (rec f (x)); (rec); (+); (+ 1); (car); (apply f); (handle h); (signal); (mark 1); (emit)", api.ErrFew},
		{"(quote 1 2); (fn (x) 1 2); (if 1 2 3 4); (let x 1 2 3); (rec f (x) 1 2); (+ 1 2 3); (car 1 2); (apply f l 1); (handle h e 1); (signal 1 2); (mark 1 2 3); (marks 1); (emit 1 2); (f 1 2 3 4 5 6 7)", api.ErrMany},
		{"(let 1 2 3); (let (x) 2 3); (let \"x\" #() if); (rec 1 if if); (rec () (x) x)", api.ErrForm},
		{"(let if #() 3); (let car 1 2); (rec quote 5 6); (rec + (1) 6)", api.ErrName},
		{"(fn x x); (fn 5 if); (fn (x . y) if); (fn #(x) if); (rec f x x); (rec f (x . y) x)", api.ErrForm},
		{"(fn (a b c d e g h) if); (fn (1 1 1 1 1 1 1) 1); (rec f (f f f f f f f) 1)", api.ErrMany},
		{"(fn (1) if); (fn (x 1 x) 1); (rec f (x (y)) 1); (fn (x (x)) 1)", api.ErrForm},
		{"(fn (x if x) #()); (fn (car 1) 1); (rec f (+ f) 1)", api.ErrName},
		{"(fn (x x 1) if); (fn (x y x) #()); (rec f (f 1) 1); (rec f (x x) 1); (rec f (x f if) 1); ((fn (x x) 1) if)", api.ErrTwice},
		{"(if (car) if #()); (f (if 1) (marks 2)); (let x (+ 1) if)", api.ErrFew},
		{"(if x (marks 2) (car)); (let x y (car 1 2)); (f (g (h 1 2 3 4 5 6 7)) if); (fn (x) (fn (y) (marks 1)))", api.ErrMany},
	} {
		for _, s := range strings.Split(x.texts, "; ") {
			if y, e := term.OfDatum(read(s)); e != x.want || !same(y, api.Term{}) {
				t.Error(s, text(y), e, "want", x.want)
			}
		}
	}
	// What is no valid datum has the error of datum.Check, also behind other errors.
	for _, x := range []struct {
		d    api.Datum
		want api.Errno
	}{{list(sym("if"), api.Datum{Kind: 9}), api.ErrKind}, {sym("X"), api.ErrName}, {vec(num(api.NumMost + 1)), api.ErrValue}, {sample.Wide(2000), api.ErrLarge}, {api.Datum{Kind: api.Pair}, api.ErrForm}} {
		if y, e := term.OfDatum(x.d); e != x.want || !same(y, api.Term{}) {
			t.Error(show(x.d), e, "want", x.want)
		}
	}
}

// TestAllForms: a list with each word in front is a form, with other symbols a call, and takes just as many elements as it should.
func TestAllForms(t *testing.T) {
	elements := map[string]int{"quote": 1, "if": 3, "apply": 2, "handle": 2, "signal": 1, "mark": 2, "marks": 0, "emit": 1}
	for _, op := range sample.Unary() {
		elements[op] = 1
	}
	for _, op := range sample.Binary() {
		elements[op] = 2
	}
	for word, n := range elements {
		l := []api.Datum{sym(word)}
		for k := range 8 {
			want := api.OK
			if k < n {
				want = api.ErrFew
			}
			if k > n {
				want = api.ErrMany
			}
			if x, e := term.OfDatum(list(l...)); e != want || e == api.OK && len(x.Args) != n && word != "quote" {
				t.Error(show(list(l...)), text(x), e)
			}
			l = append(l, num(1))
		}
	}
}

func TestToDatum(t *testing.T) {
	for _, x := range append(terms(2, 500), parseAll("(quote x)", "(quote #())", "(quote (1 2))", "()", "(fn () x)", "(rec f (x y) (let z (f) z))", "((quote f) (quote 1))")...) {
		if d, e := term.ToDatum(x); e != api.OK || !sameData(d, sample.TermData(x)) {
			t.Error(text(x), show(d), e)
		}
	}
}

// TestToDatumLarge: a term as data has as many pieces as there may be, or one more.
func TestToDatumLarge(t *testing.T) {
	quoted := func(pieces int) api.Term { return quote(sample.Wide(pieces - 1)) }
	full := func(pieces int) api.Term { return quote(sample.Zeros((pieces - 1) / 2)) }
	for i, x := range []struct {
		t    api.Term
		want api.Errno
	}{
		{quoted(1996), api.OK}, {quoted(1997), api.ErrLarge}, {quoted(2000), api.ErrLarge},
		{full(1995), api.OK}, {full(1997), api.ErrLarge}, {deep(500), api.OK}, {deep(501), api.ErrLarge}, {deep(2000), api.ErrLarge},
		{call(quoted(990), quoted(999)), api.OK}, {call(quoted(990), quoted(1000)), api.ErrLarge},
		{api.Term{Op: api.Emit, Args: []api.Term{quoted(1992)}}, api.OK}, {api.Term{Op: api.Emit, Args: []api.Term{quoted(1993)}}, api.ErrLarge},
		{bushy(2000, quote(sample.Wide(1999))), api.ErrLarge},
	} {
		d, e := term.ToDatum(x.t)
		if e != x.want {
			t.Error(i, e, "want", x.want)
		}
		if n, _, f := datum.Size(sample.TermData(x.t)); e == api.OK && (f != api.OK || !sameData(d, sample.TermData(x.t))) || e != api.OK && (f == api.OK || !sameData(d, api.Datum{})) {
			t.Error(i, n, f)
		}
	}
}
