package term_test

import (
	"slices"
	"strings"
	"testing"

	"caracole/api"
	"caracole/sample"
	"caracole/term"
)

func TestCheck(t *testing.T) {
	for _, x := range append(terms(1, 500), parseAll(
		"()", "#t", "(quote (quote . x))", "x", "(fn () 1)", "(fn (a b c d e g) a)", "(rec f () f)", "(rec f (a b c d e g) (f a))", "(let x x x)",
		"(f)", "(f 1 2 3 4 5 6)", "(1 2)", "((fn (x) x) macro)", "(if (apply f l) (handle h e) (signal e))", "(mark v (marks))", "(emit (marks))", "(+ (car x) (fn? y))")...) {
		if e := term.Check(x); e != api.OK {
			t.Error(text(x), e)
		}
	}
	for _, x := range []api.Term{deep(2000), bushy(2000, variable("x")), bushy(2000, quote(sample.Wide(1))), {}, {Op: api.Quote, Names: []string{}, Args: []api.Term{}, Data: api.Datum{Parts: []api.Datum{}}}, {Op: api.Marks, Data: api.Datum{Parts: []api.Datum{}}}} {
		if e := term.Check(x); e != api.OK {
			t.Error(size(x), e)
		}
	}
	for _, f := range faults() {
		if e := term.Check(f.t); e != f.want {
			t.Error(f.name, e, "want", f.want)
		}
	}
}

func TestIsName(t *testing.T) {
	for _, s := range []string{"x", "macro", "etc", "v1", "null", "fun", "cars", "++", "--", "x?", "=", ">", "/", "!", "?", "else", strings.Repeat("a", 20)} {
		if !term.IsName(s) {
			t.Error(s)
		}
	}
	words := append([]string{"quote", "fn", "if", "let", "rec", "apply", "handle", "signal", "mark", "marks", "emit"}, slices.Concat(sample.Unary(), sample.Binary())...)
	if len(words) != 37 {
		t.Error(len(words))
	}
	for _, s := range append(words, "", "1", "-1", "-5x", "X", "a b", "a.b", "x\n", "é", "#t", "(", strings.Repeat("a", 21)) {
		if term.IsName(s) {
			t.Error(s)
		}
	}
}

func TestTakes(t *testing.T) {
	for takes, l := range [][]string{{}, sample.Unary(), sample.Binary()} {
		for _, op := range l {
			if n, e := term.Takes(op); n != takes || e != api.OK {
				t.Error(op, n, e)
			}
		}
	}
	for _, op := range []string{"", "x", "if", "quote", "marks", "fn", "emit", "CAR", "car ", "/", "pair", "macro"} {
		if n, e := term.Takes(op); n != 0 || e != api.ErrName {
			t.Error(op, n, e)
		}
	}
}

// firstCalls are all functions with a term as their first argument: they return their error, and -1 if they return something else with it.
func firstCalls() map[string]func(t api.Term) api.Errno {
	bad := api.Term{Op: -1}
	return map[string]func(t api.Term) api.Errno{
		"Check":    term.Check,
		"ToDatum":  func(t api.Term) api.Errno { d, e := term.ToDatum(t); return zero(e, sameData(d, api.Datum{})) },
		"Size":     func(t api.Term) api.Errno { n, m, e := term.Size(t); return zero(e, n == 0 && m == 0) },
		"Free":     func(t api.Term) api.Errno { l, e := term.Free(t); return zero(e, len(l) == 0) },
		"Same":     func(t api.Term) api.Errno { is, e := term.Same(t, bad); return zero(e, !is) },
		"Canon":    func(t api.Term) api.Errno { return none(term.Canon(t)) },
		"At":       func(t api.Term) api.Errno { return none(term.At(t, []int{-1})) },
		"Put":      func(t api.Term) api.Errno { return none(term.Put(t, []int{-1}, bad)) },
		"Bound":    func(t api.Term) api.Errno { l, e := term.Bound(t, []int{-1}); return zero(e, len(l) == 0) },
		"Subst":    func(t api.Term) api.Errno { return none(term.Subst(t, "1", bad)) },
		"SubstAll": func(t api.Term) api.Errno { return none(term.SubstAll(t, []string{"1"}, []api.Term{bad, bad})) },
	}
}

// laterCalls are all functions with a term behind the first one.
func laterCalls() map[string]func(t api.Term) api.Errno {
	bad := api.Term{Op: -1}
	x := variable("x")
	return map[string]func(t api.Term) api.Errno{
		"Same":  func(t api.Term) api.Errno { is, e := term.Same(x, t); return zero(e, !is) },
		"Put":   func(t api.Term) api.Errno { return none(term.Put(x, []int{-1}, t)) },
		"Subst": func(t api.Term) api.Errno { return none(term.Subst(x, "y", t)) },
		"SubstAll": func(t api.Term) api.Errno {
			return none(term.SubstAll(x, []string{"x", "y", "z"}, []api.Term{x, t, bad}))
		},
	}
}

func zero(e api.Errno, isZero bool) api.Errno {
	if e != api.OK && !isZero {
		return -1
	}
	return e
}

func none(t api.Term, e api.Errno) api.Errno { return zero(e, same(t, api.Term{})) }

// TestErrorsOfTerms: all functions return the error of their first term first, then that of the next one; their own errors come behind them, and with each there are zero values (R1, R3).
func TestErrorsOfTerms(t *testing.T) {
	for _, f := range faults() {
		for name, call := range firstCalls() {
			if e := call(f.t); e != f.want {
				t.Error(name, f.name, e, "want", f.want)
			}
		}
		for name, call := range laterCalls() {
			if e := call(f.t); e != f.want {
				t.Error(name, "later", f.name, e, "want", f.want)
			}
		}
	}
}
