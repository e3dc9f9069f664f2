package rule_test

import (
	"slices"
	"strconv"
	"strings"
	"testing"

	"caracole/api"
	"caracole/rule"
	"caracole/sample"
	"caracole/term"
)

var (
	num, sym, vec, wide, zeros  = sample.Num, sample.Sym, sample.Vec, sample.Wide, sample.Zeros
	show, read                  = sample.Show, sample.Read
	parse, text, quote, nameVar = sample.Term, sample.TermText, sample.Quote, sample.Var
	same, size, terms           = sample.SameTerm, sample.TermSize, sample.Bush
	call, prim, function        = sample.Call, sample.Prim, sample.Function
	toldOr, told, toldRun       = sample.Told, sample.ToldTerm, sample.ToldRun
	toldBool, toldDatum         = sample.ToldBool, sample.ToldDatum
)

func must[T any](t *testing.T) func(x T, e api.Errno) T {
	return func(x T, e api.Errno) T {
		t.Helper()
		if e != api.OK {
			t.Error(e)
		}
		return x
	}
}

func numbers(l []int) string {
	var words []string
	for _, n := range l {
		words = append(words, strconv.Itoa(n))
	}
	return strings.Join(words, " ")
}

func toldNumbers(l []int, e api.Errno) string { return toldOr(numbers(l), e) }

func toldTerms(l []api.Term, e api.Errno) string {
	var words []string
	for _, t := range l {
		words = append(words, text(t))
	}
	return toldOr(strings.Join(words, " "), e)
}

func ruleName(n int) string {
	return []string{"call", "apply", "if", "let", "prim", "handle", "signal", "mark", "marks", "emit"}[n]
}

func toldStep(s api.RuleStep, e api.Errno) string {
	got := text(s.Next)
	if s.Err != api.OK {
		got = toldOr("", s.Err)
		if !same(s.Next, api.Term{}) || len(s.Out) > 0 {
			got += " with " + text(s.Next)
		}
	}
	return toldOr(ruleName(s.Rule)+" "+got+sample.PutOut(s.Out), e)
}

func toldAfter(t api.Term, out []api.Datum, e api.Errno) string {
	return toldOr(text(t)+sample.PutOut(out), e)
}

func toldTrace(l []int, e api.Errno) string {
	var words []string
	for _, n := range l {
		words = append(words, ruleName(n))
	}
	return toldOr(strings.Join(words, " "), e)
}

// everything is what all functions return for some arguments.
func everything(t, s api.Term, path []int, most int) []string {
	return []string{
		toldBool(rule.Value(t)), toldDatum(rule.Show(t)), toldNumbers(rule.Find(t)), told(rule.Put(t, path, s)), told(rule.Around(t)), toldTerms(rule.Marked(t)),
		toldStep(rule.Step(t)), toldRun(rule.Run(t, most)), toldAfter(rule.After(t, most)), toldTrace(rule.Trace(t, most)),
	}
}

// value is a function of n terms.
func value(n int) api.Term { return function("y", terms(n-1)) }

// programs are many programs by chance, and what becomes of them on the way.
func programs(seed uint64, n int) []api.Term { return sample.Programs(seed, n, 500, rule.After) }

// values are closed terms that are values.
func values() []api.Term {
	return sample.Terms("()", "#f", "#t", "5", "(quote a)", `"s"`, "(quote (1 2))", "(quote (1 . 2))", "(quote #(1))", "(fn () 1)", "(fn (x) x)", "(rec f (x y) (f x))", "(cons 1 (fn () 1))", "(cons (fn () 1) ())", "(cons (cons (fn () 2) 1) (quote (3)))", "(cons (quote (1 2)) (cons (fn (x) x) (quote (3))))", "(cons (rec f () 1) (fn (x) x))")
}

// closed says whether a term is valid, and has no free names.
func closed(t api.Term) bool {
	free, e := term.Free(t)
	return e == api.OK && len(free) == 0
}

// at is the term to which a path leads.
func at(t api.Term, path []int) api.Term { return sample.FollowTerm(t, path) }

// putAt is a term with another one at a path.
func putAt(t api.Term, path []int, s api.Term) api.Term {
	t.Args = slices.Clone(t.Args)
	if len(path) == 0 {
		return s
	}
	t.Args[path[0]] = putAt(t.Args[path[0]], path[1:], s)
	return t
}
