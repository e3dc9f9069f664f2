package term_test

import (
	"testing"

	"caracole/api"
	"caracole/term"
)

// TestExamples has the examples of the chapter, row by row.
func TestExamples(t *testing.T) {
	check := func(got, want string) {
		t.Helper()
		if got != want {
			t.Errorf("%q want %q", got, want)
		}
	}
	back := func(s string) string {
		x, e := term.OfDatum(read(s))
		if e != api.OK {
			t.Error(s, e)
		}
		return toldData(term.ToDatum(x))
	}
	of := func(s string) string { return told(term.OfDatum(read(s))) }
	const form, name, twice, few, many, zero, rng = "error 1", "error 2", "error 3", "error 5", "error 6", "error 7", "error 9"

	check(back("5"), "5")
	check(back("(quote 5)"), "5")
	check(back("(quote x)"), "(quote x)")
	check(back("(f 1 x)"), "(f 1 x)")

	check(of("if"), name)
	check(of("(if 1 2)"), few)
	check(of("(fn (x x) 1)"), twice)
	check(of("(let 1 2 3)"), form)
	check(of("(fn (x . y) x)"), form)
	check(of("(1 2)"), text(call(quote(num(1)), quote(num(2)))))

	check(of("(marks 1)"), many)
	check(of("(+ 1)"), few)
	check(of("(rec f (f) 1)"), twice)
	check(of("(rec if (x) x)"), name)
	check(of("#(1)"), form)

	free := func(s string) string { return toldNames(term.Free(parse(s))) }
	check(free("(fn (x) (f x y))"), "f y")
	check(free("(let x x x)"), "x")
	check(free("(rec f (x) (f x))"), "")

	for s, want := range map[string]bool{"(fn (y) y)": true, "(fn (x) y)": false} {
		a, b := "(fn (x) x)", s
		if !want {
			a, b = s, "(fn (y) y)"
		}
		if is, e := term.Same(parse(a), parse(b)); is != want || e != api.OK {
			t.Error(a, b, is, e)
		}
	}
	check(told(term.Canon(parse("(fn (x) (let y x (v1 y)))"))), "(fn (v2) (let v3 v2 (v1 v3)))")

	if n, m, e := term.Size(parse("(if #t (f x) 2)")); n != 6 || m != 3 || e != api.OK {
		t.Error(n, m, e)
	}
	f := parse("(fn (x) (let y x y))")
	check(toldNames(term.Bound(f, []int{0, 1})), "x y")
	check(toldNames(term.Bound(f, []int{0, 0})), "x")
	check(told(term.At(f, []int{0, 0})), "x")
	check(told(term.At(f, []int{1})), rng)

	check(toldOr(term.Fresh("x", []string{"x1"})), "x2")
	check(toldOr(term.Fresh("y", nil)), "y1")
	check(toldOr(term.Fresh("if", nil)), name)

	check(told(term.Subst(parse("(fn (y) (x y))"), "x", variable("y"))), "(fn (y1) (y y1))")
	check(told(term.Subst(parse("(let x x x)"), "x", parse("1"))), "(let x 1 x)")
	check(told(term.Subst(parse("(fn (x) x)"), "x", parse("1"))), "(fn (x) x)")
	check(told(term.SubstAll(parse("(x y)"), []string{"x", "y"}, parseAll("y", "x"))), "(y x)")
	check(told(term.SubstAll(parse("(x y)"), []string{"x", "x"}, parseAll("y"))), twice)

	delta := func(op string, args ...api.Datum) string { return toldData(term.Delta(op, args)) }
	check(delta("quo", num(-7), num(2)), "-3")
	check(delta("rem", num(-7), num(2)), "-1")
	check(delta("+", num(1), sym("a")), "error 4")
	check(delta("<", num(1), num(2)), "#t")
	check(delta("cons", num(1), api.Datum{}), "(1)")
	check(delta("fail", num(7)), zero)
	check(delta("fail", num(0)), rng)
	check(delta("chars", str("ab")), "(97 98)")
	check(delta("string", read("(97 98)")), `"ab"`)
	check(delta("symbol", str("if")), "if")
	check(delta("symbol", str("A")), name)
}
