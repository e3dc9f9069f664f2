package expand_test

import (
	"slices"
	"strings"
	"testing"

	"caracole/api"
	"caracole/expand"
	"caracole/sample"
)

// row is a program, what Expand returns for it, and what Plain does ("" if this is the same).
type row struct{ program, want, plain string }

// check looks what Expand, Plain, Captured and Uses return for programs.
func check(t *testing.T, most int, rows []row) {
	t.Helper()
	for _, x := range rows {
		d := read(x.program)
		plain := x.plain
		if plain == "" {
			plain = x.want
		}
		if got := told(expand.Expand(d, most)); got != x.want {
			t.Error(x.program, got, "want", x.want)
		}
		if got := told(expand.Plain(d, most)); got != plain {
			t.Error("plain:", x.program, got, "want", plain)
		}
		captured := "false"
		switch {
		case strings.HasPrefix(x.want, "error"):
			captured = x.want
		case termIn(x.want) != termIn(plain):
			captured = "true"
		}
		if got := toldBool(expand.Captured(d, most)); got != captured {
			t.Error("captured:", x.program, got, "want", captured)
		}
		if got := toldNames(expand.Uses(d, most)); strings.HasPrefix(got, "error") != strings.HasPrefix(x.want, "error") {
			t.Error("uses:", x.program, got, "beside", x.want)
		}
	}
}

// termIn is what is told of a term without the steps.
func termIn(told string) string {
	term, _, _ := strings.Cut(told, ", ")
	return term
}

// TestForms: without macros a program is its term (P6.1).
func TestForms(t *testing.T) {
	check(t, 0, []row{
		{"5", "5, 0", ""}, {"()", "(), 0", ""}, {`"s"`, `"s", 0`, ""}, {"#t", "#t, 0", ""}, {"x", "x, 0", ""}, {"etc", "etc, 0", ""}, {"?x", "?x, 0", ""}, {"(quote (if . #(macro 1)))", "(quote (if . #(macro 1))), 0", ""}, {"(quote 5)", "5, 0", ""},
		{"(fn (etc ?a) (etc ?a b))", "(fn (v1 v2) (v1 v2 b)), 0", ""}, {"(fn () v1)", "(fn () v1), 0", ""}, {"(fn (x) v1)", "(fn (v2) v1), 0", ""}, {"(let x x x)", "(let v1 x v1), 0", ""}, {"(rec f (x) (f x y))", "(rec v1 (v2) (v1 v2 y)), 0", ""}, {"(rec f () f)", "(rec v1 () v1), 0", ""},
		{"(if 1 2 (f))", "(if 1 2 (f)), 0", ""}, {"(apply f (marks))", "(apply f (marks)), 0", ""}, {"(handle (signal 1) (mark 2 (emit 3)))", "(handle (signal 1) (mark 2 (emit 3))), 0", ""}, {"(+ (car x) (fn? y))", "(+ (car x) (fn? y)), 0", ""}, {"((fn (x) x) 1 2 3 4 5 6)", "((fn (v1) v1) 1 2 3 4 5 6), 0", ""}, {"((quote if) 1)", "((quote if) 1), 0", ""}, {"(1 2)", "(1 2), 0", ""},
		{"(fn (x) (fn (y) (let x y x)))", "(fn (v1) (fn (v2) (let v3 v2 v3))), 0", ""},
	})
}

// TestOrigins: symbols of templates are others than those of programs, and stand for what they stand for where the macro is defined (P6.1, P6.2).
func TestOrigins(t *testing.T) {
	check(t, 20, []row{
		// a template binds, and does not catch
		{in(or2, "(or2 (or2 x t) (or2 t x))"), "(let v1 (let v2 x (if v2 v2 t)) (if v1 v1 (let v3 t (if v3 v3 x)))), 3", "(let v1 (let v2 x (if v2 v2 v2)) (if v1 v1 (let v3 v1 (if v3 v3 x)))), 3"},
		{"(macro m (((?a) (fn (x) (?a x)))) (fn (x) (m x)))", "(fn (v1) (fn (v2) (v1 v2))), 1", "(fn (v1) (fn (v2) (v2 v2))), 1"},
		{"(macro m (((?a) (rec f (x) (f x ?a)))) (f x (m (f x))))", "(f x (rec v1 (v2) (v1 v2 (f x)))), 1", "(f x (rec v1 (v2) (v1 v2 (v1 v2)))), 1"},
		// symbols of one use are the same, those of two are not
		{"(macro m (((?x ?b) (let x 1 (let ?x x ?b)))) (m y (m z (x y z))))", "(let v1 1 (let v2 v1 (let v3 1 (let v4 v3 (x v2 v4))))), 2", "(let v1 1 (let v2 v1 (let v3 1 (let v4 v3 (v3 v2 v4))))), 2"},
		{"(macro m (((?x) (fn (x ?x) (x ?x)))) (m x))", "(fn (v1 v2) (v1 v2)), 1", "error 3"},
		{"(macro m (((?x) (rec x (?x) (x ?x)))) (m x))", "(rec v1 (v2) (v1 v2)), 1", "error 3"},
		{"(macro m ((() (fn (x x) x))) (m))", "error 3", ""},
		{"(macro m (((?x) (fn (?x ?x) 1))) (m x))", "error 3", ""},
		{"(macro m ((((?x etc) ?b) (fn (?x etc) ?b))) (macro k (((?x) (m (?x x) (?x x)))) (k x)))", "(fn (v1 v2) (v1 v2)), 2", "error 3"},
		// a template's free names are not caught where it is used
		{"(let x 1 (macro m ((() x)) (let x 2 (m))))", "(let v1 1 (let v2 2 v1)), 1", "(let v1 1 (let v2 2 v2)), 1"},
		{"(macro m ((() x)) (let x 2 (m)))", "(let v1 2 x), 1", "(let v1 2 v1), 1"},
		{"(macro k ((() 1)) (macro m ((() (k))) (let k 2 (m))))", "(let v1 2 1), 2", "(let v1 2 (v1)), 1"},
		{"(macro k ((() 1)) (macro m ((() (k))) (macro k ((() 2)) (m))))", "1, 2", "2, 2"},
		{"(macro k ((() ())) (macro m ((() (k))) (macro k () (m))))", "(), 2", "error 10"},
		{"(macro m (((?b) (let x 1 ?b)) (() x)) (m (m)))", "(let v1 1 x), 2", "(let v1 1 v1), 2"},
		{"(fn (x) (macro m (((?b) (let x 1 (?b x)))) (m x)))", "(fn (v1) (let v2 1 (v1 v2))), 1", "(fn (v1) (let v2 1 (v2 v2))), 1"},
		// macros that are defined by templates
		{"(macro d (((?m ?v ?b) (macro ?m ((() ?v)) ?b))) (d k 5 (k)))", "5, 2", ""},
		{"(macro d (((?b) (macro k ((() 5)) ?b))) (d (k)))", "(k), 1", "5, 2"},
		{"(macro d (((?e) (macro k (((?y) ?y)) (k ?e)))) (d 1))", "error 2", ""},
		{"(macro d ((() (macro k ((() x)) (let x 1 (k))))) (let x 2 (d)))", "(let v1 2 (let v2 1 x)), 2", "(let v1 2 (let v2 1 v2)), 2"},
		{"(macro d (((?r ?e) (macro k ?r ?e))) (d (((?y) (car ?y)) (() x)) (k (k))))", "(k (k)), 1", "(car x), 3"},
		{"(macro d (((?k ?r ?e) (macro ?k ?r ?e))) (d k (((?y) (car ?y)) (() x)) (k (k))))", "(car x), 3", ""},
		{"(macro d (((?x) (macro k (((?a) (fn (?x) (fn (x) (?a ?x x))))) (k ?x)))) (d x))", "error 2", ""},
		{"(macro d (((?x) (macro k (((x) 1) ((?x) 2)) (k ?x)))) (d x))", "1, 2", ""},
		{"(macro d (((?x) (macro k (((x) 1) ((?x) 2)) (k ?x)))) (let x 5 (d x)))", "(let v1 5 2), 2", "(let v1 5 1), 2"},
		{"(macro d (((?x) (macro k (((x) 1) ((?x) 2)) (k x)))) (d x))", "1, 2", ""},
		// a symbol of a use that comes of a symbol of a use
		{"(macro a (((?x) (let x 1 (b ?x x)))) (macro b (((?x ?y) (let x 2 (?x ?y x)))) (a x)))", "(let v1 1 (b x v1)), 1", "(let v1 1 (let v2 2 (v2 v2 v2))), 2"},
		{"(macro b (((?x ?y) (let x 2 (?x ?y x)))) (macro a (((?x) (let x 1 (b ?x x)))) (a x)))", "(let v1 1 (let v2 2 (x v1 v2))), 2", "(let v1 1 (let v2 2 (v2 v2 v2))), 2"},
		{"(macro c (((?x) (macro c2 (((?y) (fn (?x) (?y ?x))) (() (fn (x) (?x x)))) (c2 x)))) (c x))", "error 2", ""},
		{"(macro s (((?b) (let x 1 (macro k ((() x)) ?b)))) (s x))", "(let v1 1 x), 1", "(let v1 1 v1), 1"},
		{"(macro s (((?k ?b) (let x 1 (macro ?k ((() x)) ?b)))) (s k (let x 2 (k))))", "(let v1 1 (let v2 2 v1)), 2", "(let v1 1 (let v2 2 v2)), 2"},
		// data are texts
		{"(macro m (((?x) (let x 1 (quote (x ?x))))) (m x))", "(let v1 1 (quote (x x))), 1", ""},
		{"(macro m ((() (quote etc2))) (m))", "(quote etc2), 1", ""},
		{"(macro m (((?x) (quote #(x ?x)))) (fn (x) (m (macro ?x etc))))", "(fn (v1) (quote #(x (macro ?x etc)))), 1", ""},
		// words are words
		{"(macro m (((?x) (if ?x 1 2))) (m (m if2)))", "(if (if if2 1 2) 1 2), 2", ""},
		{"(macro m ((() if)) (m))", "error 2", ""}, {"(macro m ((() macro)) (m))", "error 2", ""}, {"(macro m ((() (let if 1 2))) (m))", "error 2", ""},
		{"(macro m ((() (macro k ((() 3)) (k)))) (m))", "3, 2", ""},
		{"(macro m (((?f ?e) (?f ?e))) (m car 1))", "(car 1), 1", ""}, {"(macro m (((?f ?e) (?f ?e))) (m if 1))", "error 5", ""}, {"(macro m (((?f ?e) (?f k ((() ?e)) (k)))) (m macro 1))", "1, 2", ""},
	})
}

// TestPatterns: a symbol in a pattern matches one that stands for the same thing (P6.1, P6.2).
func TestPatterns(t *testing.T) {
	is := "(macro is (((k) 1) ((?a) 2)) ..)"
	check(t, 9, []row{
		{in(is, "(is k)"), "1, 1", ""}, {in(is, "(is x)"), "2, 1", ""}, {in(is, "(is 5)"), "2, 1", ""}, {in(is, `(is "k")`), "2, 1", ""}, {in(is, "(is (k))"), "2, 1", ""},
		{in(is, "(fn (k) (is k))"), "(fn (v1) 2), 1", "(fn (v1) 1), 1"}, {in("(fn (k) ..)", is, "(is k)"), "(fn (v1) 1), 1", ""}, {in("(fn (k) ..)", is, "(fn (k) (is k))"), "(fn (v1) (fn (v2) 2)), 1", "(fn (v1) (fn (v2) 1)), 1"}, {in("(fn (k) ..)", is, "(fn (x) (is k))"), "(fn (v1) (fn (v2) 1)), 1", ""},
		{in("(let k 1 ..)", is, "(let k 2 (is k))"), "(let v1 1 (let v2 2 2)), 1", "(let v1 1 (let v2 2 1)), 1"}, {in("(rec k () ..)", is, "(is k)"), "(rec v1 () 1), 1", ""},
		// macros are told from each other, too
		{in("(macro k () ..)", is, "(is k)"), "1, 1", ""}, {in(is, "(macro k () (is k))"), "2, 1", "1, 1"}, {in("(macro k () ..)", is, "(macro k () (is k))"), "2, 1", "1, 1"}, {"(macro k (((k) 1) ((?a) 2)) (k k))", "1, 1", ""}, {"(macro k (((k) 1) ((?a) 2)) (macro j (((?a) (k ?a))) (j k)))", "1, 2", ""},
		// what came of a use stands for what it stood for in the template
		{in(is, "(macro m ((() (is k))) (m))"), "1, 2", ""}, {in(is, "(fn (k) (macro m ((() (is k))) (m)))"), "(fn (v1) 2), 2", "(fn (v1) 1), 2"}, {in(is, "(macro m ((() (is k))) (fn (k) (m)))"), "(fn (v1) 1), 2", ""}, {in(is, "(macro m ((() (let k 1 (is k)))) (m))"), "(let v1 1 2), 2", "(let v1 1 1), 2"}, {in(is, "(macro m (((?k) (let k 1 (is ?k)))) (m k))"), "(let v1 1 1), 2", ""},
		{"(macro m ((() (macro is (((k) 1) ((?a) 2)) (is k)))) (m))", "error 2", ""}, {"(macro m (((?v ?k) (macro is (((k) 1) ((?v) 2)) (is ?k)))) (m ?a k))", "1, 2", ""}, {"(macro m (((?v ?k) (let k 1 (macro is (((k) 1) ((?v) 2)) (is ?k))))) (m ?a k))", "(let v1 1 2), 2", "(let v1 1 1), 2"},
		// words
		{"(macro is (((if macro) 1) (?a 2)) (is if macro))", "1, 1", ""}, {"(macro is (((if) 1) (?a 2)) (macro m ((() (is if))) (m)))", "1, 2", ""}, {"(macro is (((if) 1) (?a 2)) (is let))", "2, 1", ""},
		// all else in patterns
		{"(macro m ((#(1) 1) ((?a . ?r) (?r (quote ?a)))) (m x))", "(() (quote x)), 1", ""}, {"(macro m (((?a . ?r) (car . ?r))) (m x y))", "(car y), 1", ""}, {"(macro m ((((?x ?e) etc ?b) ((fn (?x etc) ?b) ?e etc))) (m (x 1) (y x) (x y)))", "((fn (v1 v2) (v1 v2)) 1 x), 1", ""}, {"(macro m (((#(?a etc)) (f ?a etc))) (m #(1 x (m #(y)))))", "(f 1 x (f y)), 2", ""},
		{"(macro m ((() 1) (?a 2)) (m))", "1, 1", ""}, {"(macro m ((?a (quote ?a))) (m))", "(), 1", ""}, {"(macro m ((?a (quote ?a))) (m if (macro) . ()))", "(quote (if (macro))), 1", ""}, {"(macro m (((etc) 1)) 1)", "error 1", ""}, {"(macro m (((etc2) 1)) (m etc2))", "1, 1", ""}, {"(macro m (((?a) ?a)) (m etc))", "etc, 1", ""}, {"(macro m (((?a) ?a)) (m ?a))", "?a, 1", ""}, {"(macro m (((?) 1)) (m ?))", "1, 1", ""},
		// symbols in repeated parts, at any depth
		{"(macro m (((x etc ?b) ?b)) (m x x x x))", "x, 1", ""}, {"(macro m (((x etc ?b) ?b) (?a 0)) (fn (x) (m x x)))", "(fn (v1) 0), 1", "(fn (v1) v1), 1"}, {"(macro m (((((((x etc) etc) etc) etc) ?b) ?b) (?a 0)) (m ((((x x) (x)) ()) (((x)))) 5))", "5, 1", ""}, {"(macro m (((((((x etc) etc) etc) etc) ?b) ?b) (?a 0)) (m ((((x x) (x)) ()) (((y)))) 5))", "0, 1", ""}, {"(macro m (((((((x etc) etc) etc) etc) ?b) ?b) (?a 0)) (fn (x) (m ((((x)))) 5)))", "(fn (v1) 0), 1", "(fn (v1) 5), 1"},
	})
	d := list(sym("macro"), sym("m"), read("(((#(x etc)) 1))"), list(sym("m"), vec(slices.Repeat([]api.Datum{sym("x")}, 1900)...)))
	if got := told(expand.Expand(d, 1)); got != "1, 1" {
		t.Error(got)
	}
}

// TestScope is P6.15, and what forms bind (P6.1).
func TestScope(t *testing.T) {
	m := "(macro m (((?a etc) 5)) ..)"
	check(t, 9, []row{
		{in(m, "(m 1)"), "5, 1", ""}, {in(m, "(fn (m) (m 1))"), "(fn (v1) (v1 1)), 0", ""}, {in(m, "(f (fn (m) (m 1)) (m 1))"), "(f (fn (v1) (v1 1)) 5), 1", ""}, {in(m, "(fn (x m) m)"), "(fn (v1 v2) v2), 0", ""}, {in(m, "(fn (x) m)"), "error 2", ""},
		{in(m, "(let m (m 1) (m 1))"), "(let v1 5 (v1 1)), 1", ""}, {in(m, "(let m m 1)"), "error 2", ""}, {in(m, "(rec m () (m 1))"), "(rec v1 () (v1 1)), 0", ""}, {in(m, "(rec f (m) (m f))"), "(rec v1 (v2) (v2 v1)), 0", ""}, {in(m, "(f (let m 1 m) (rec m (x) m) (m))"), "(f (let v1 1 v1) (rec v2 (v3) v2) 5), 1", ""},
		{in(m, "(macro m ((() 6)) (m))"), "6, 1", ""}, {in(m, "(macro m ((() (m 1)) (?a 7)) (m))"), "7, 2", ""}, {in(m, "(f (macro m () (quote m)) (m))"), "(f (quote m) 5), 1", ""}, {in(m, "(f (macro m () (m 1)) (m))"), "error 10", ""}, {in(m, "(f (m) (macro k () (m)) (k))"), "(f 5 5 (k)), 2", ""},
		// behind a form its symbols stand for what they stood for before
		{"(let x 5 (macro m ((() (f (let x 1 x) (fn (x) x) x))) (let x 6 (m))))", "(let v1 5 (let v2 6 (f (let v3 1 v3) (fn (v4) v4) v1))), 1", "(let v1 5 (let v2 6 (f (let v3 1 v3) (fn (v4) v4) v2))), 1"}, {"(macro is (((k) 1) ((?a) 2)) (f (let k (is k) (is k)) (is k)))", "(f (let v1 1 2) 1), 3", "(f (let v1 1 1) 1), 3"}, {"(fn (x) (f (fn (x x2) x) (rec x2 (x) x) (macro x () 1) x x2))", "(fn (v1) (f (fn (v2 v3) v2) (rec v4 (v5) v5) 1 v1 x2)), 0", ""},
		{"(f (macro m ((() 1)) (m)) (m) m)", "(f 1 (m) m), 1", ""}, {"(macro m (((m) 1) ((?a) (m m))) (m 5))", "1, 2", ""}, {"(macro m ((() (fn (m) m))) (m))", "(fn (v1) v1), 1", ""}, {"(macro m ((() (let m 1 (m)))) (m))", "(let v1 1 (v1)), 1", ""}, {"(macro m (((?a) (let m 1 (?a m)))) (m m))", "(let v1 1 (let v2 1 (v1 v2))), 2", "(let v1 1 (v1 v1)), 1"},
		{in(m, "((m) 1)"), "(5 1), 1", ""}, {in(m, "(car m)"), "error 2", ""}, {in(m, "(m m)"), "5, 1", ""}, {in(m, "(quote m)"), "(quote m), 0", ""}, {in(m, "((quote m) (m . ()))"), "((quote m) 5), 1", ""},
	})
}

// TestOrder: the first error that comes is returned (P6.1).
func TestOrder(t *testing.T) {
	check(t, 3, []row{
		// layer 4
		{"#()", "error 1", ""}, {"(f #())", "error 1", ""}, {"(f . x)", "error 1", ""}, {"(quote . x)", "error 1", ""}, {"(let . x)", "error 1", ""}, {"if", "error 2", ""}, {"(f if)", "error 2", ""}, {"(if 1 2)", "error 5", ""}, {"(if 1 2 3 if)", "error 6", ""}, {"(quote)", "error 5", ""}, {"(quote 1 2)", "error 6", ""}, {"(marks 1)", "error 6", ""}, {"(f 1 2 3 4 5 6 7)", "error 6", ""}, {"(#(1) 1 2 3 4 5 6 7)", "error 6", ""}, {"(#(1) if)", "error 1", ""},
		{"(let 1 2 3)", "error 1", ""}, {"(let (x) if 3)", "error 1", ""}, {"(let if #() 3)", "error 2", ""}, {"(let x if #())", "error 2", ""}, {"(let macro 1 2)", "error 2", ""}, {"(let macro 1)", "error 5", ""}, {"(let)", "error 5", ""}, {"(fn)", "error 5", ""}, {"(rec)", "error 5", ""}, {"(rec f)", "error 5", ""}, {"(rec if (x) y z)", "error 6", ""}, {"(rec 1 (x . y) 2)", "error 1", ""}, {"(rec macro 1 2)", "error 2", ""}, {"(rec f (macro) 2)", "error 2", ""}, {"(rec f (f) 2)", "error 3", ""}, {"(rec f (x x) 2)", "error 3", ""},
		{"(fn x 1)", "error 1", ""}, {"(fn #(x) 1)", "error 1", ""}, {"(fn (x . y) 1)", "error 1", ""}, {"(fn (1 2 3 4 5 6 7) 1)", "error 6", ""}, {"(fn (x x 1) 1)", "error 3", ""}, {"(fn (x 1 x) 1)", "error 1", ""}, {"(fn (x macro x) 1)", "error 2", ""}, {"(fn (x) 1 2)", "error 6", ""}, {"(fn (macro) #())", "error 2", ""}, {"(fn ((macro)) #())", "error 1", ""},
		// macro
		{"macro", "error 2", ""}, {"(f macro)", "error 2", ""}, {"(macro . x)", "error 1", ""}, {"(macro)", "error 5", ""}, {"(macro 1 2)", "error 5", ""}, {"(macro 1 2 3 4)", "error 6", ""}, {"(macro 1 2 3)", "error 1", ""}, {"(macro (m) 2 3)", "error 1", ""}, {"(macro if 2 3)", "error 2", ""}, {"(macro macro () 3)", "error 2", ""}, {"(macro car () 3)", "error 2", ""}, {"(macro m 2 if)", "error 1", ""}, {"(macro m #() if)", "error 1", ""}, {"(macro m x if)", "error 1", ""}, {"(macro m ((() 1) . x) if)", "error 1", ""},
		{"(macro m (1) if)", "error 1", ""}, {"(macro m (()) if)", "error 1", ""}, {"(macro m ((1)) if)", "error 1", ""}, {"(macro m ((1 2 3)) if)", "error 1", ""}, {"(macro m ((1 2 . 3)) if)", "error 1", ""}, {"(macro m (#(1 2)) if)", "error 1", ""}, {"(macro m ((?a ?b) (1)) if)", "error 1", ""},
		{"(macro m ((?a ?b)) if)", "error 2", ""}, {"(macro m (((?a ?a) 1)) if)", "error 3", ""}, {"(macro m (((?a etc) ?a)) if)", "error 4", ""}, {"(macro m (((a etc b etc) 1)) if)", "error 6", ""}, {"(macro m ((((((?a etc) etc) etc) etc) 1)) if)", "error 8", ""}, {"(macro m ((?a (1 etc))) if)", "error 10", ""}, {"(macro m ((etc 1)) if)", "error 1", ""}, {"(macro m ((1 etc)) if)", "error 1", ""}, {"(macro m ((1 2) (?a ?b) (etc 1)) if)", "error 2", ""}, {"(macro m ((1 2)) if)", "error 2", ""},
		// uses
		{"(macro m () (m . x))", "error 1", ""}, {"(macro m () (m))", "error 10", ""}, {"(macro m ((1 2)) (m if))", "error 10", ""}, {"(macro m () (f (m) if))", "error 10", ""}, {"(macro m () (f if (m)))", "error 2", ""}, {"(macro m ((() if)) (m))", "error 2", ""}, {"(macro m ((() (m 1))) (m))", "error 10", ""},
		{"(macro m ((((?a etc) (?b etc)) ((?a ?b) etc)) (?a 1)) (m (1) (2 3)))", "error 11", ""}, {"(macro m (((?a) (m ?a))) (f (m 1) if))", "error 12", ""}, {"(macro m (((?a) ?a)) (f (m 1) (m 2) (m 3) if))", "error 2", ""}, {"(macro m (((?a) ?a)) (f (m 1) (m 2) (m 3) (m 4 5)))", "error 12", ""}, {"(macro m (((?a) ?a)) (f (m 1) (m 2) (m 3 4) (m 4)))", "error 10", ""}, {"(macro m (((?a) ?a)) (f (m 1) (m 2) (m 3) (m . 4)))", "error 1", ""}, {"(macro m (((?a) ?a)) (f (m (m 1)) (m 2)))", "(f 1 2), 3", ""}, {"(macro m (((?a) ?a)) (f (m (m 1)) (m (m 2))))", "error 12", ""},
		// the first part comes first, and the outside before the inside
		{"(macro m () (let x (m) if))", "error 10", ""}, {"(macro m () (let x if (m)))", "error 2", ""}, {"(macro m () (let 1 (m) if))", "error 1", ""}, {"(macro m () ((m) if))", "error 10", ""}, {"(f (fn (x) (if 1)) if)", "error 5", ""}, {"(f (let x 1 2 3) (if 1))", "error 6", ""}, {"(f (macro m () (m)) if)", "error 10", ""}, {"((macro m () if) (macro k 1 1))", "error 2", ""},
	})
}

// TestManyRules: there are at most as many rules as layer 5 allows, which is looked at behind the forms of all of them (P6.1).
func TestManyRules(t *testing.T) {
	for _, x := range []struct {
		n    int
		last string
		want api.Errno
	}{{19, "(?a 7)", api.OK}, {20, "(?a 7)", api.ErrMany}, {20, "(?a)", api.ErrForm}, {20, "(?a ?b)", api.ErrMany}, {19, "(?a ?b)", api.ErrName}} {
		d := read("(macro m (" + strings.Repeat("(1 2) ", x.n) + x.last + ") (m 5))")
		if x.want != api.OK {
			errors(t, d, 9, x.want)
		} else if got := told(expand.Expand(d, 9)); got != "7, 1" {
			t.Error(got)
		}
	}
}

// TestLimits: how many steps there may be, and how large data and terms (P6.1 to P6.4).
func TestLimits(t *testing.T) {
	t.Parallel()
	for _, most := range []int{-1, 1001, -1 << 62, 1 << 62} {
		for _, x := range []struct {
			d    api.Datum
			want api.Errno
		}{{sym("x"), api.ErrValue}, {sym("if"), api.ErrValue}, {sym("X"), api.ErrName}, {api.Datum{Kind: 9}, api.ErrKind}, {wide(2000), api.ErrLarge}} {
			errors(t, x.d, most, x.want)
		}
	}
	errors(t, sym("X"), 0, api.ErrName)
	errors(t, wide(2000), 0, api.ErrLarge)
	count := func(n int) api.Datum {
		return put(read("(macro m ((() 0) ((?a . ?b) (m . ?b))) (m))"), []int{1, 1, 1, 0, 1}, zeros(n))
	}
	if got := told(expand.Expand(count(900), 901)); got != "0, 901" {
		t.Error(got)
	}
	errors(t, count(900), 900, api.ErrLimit)
	errors(t, read("(macro m ((() (f (m)))) (m))"), 1000, api.ErrLimit)
	// what comes in the place of a use has at most 2000 pieces
	grow := "(macro m (((?a) (quote #(?a ?a)))) (m x))"
	for _, x := range []struct {
		n    int
		want api.Errno
	}{{996, api.OK}, {997, api.ErrLarge}} {
		// quote, two pairs, the end and the vector, and both
		if d, want := put(read(grow), []int{1, 1, 1, 0, 1, 0}, wide(x.n)), x.want; want == api.OK {
			if _, steps, e := expand.Expand(d, 1); e != want || steps != 1 {
				t.Error(x.n, e)
			}
		} else {
			errors(t, d, 1, want)
			errors(t, d, 0, api.ErrLimit)
		}
	}
	// what a variable stands for has, too, though it is not needed
	errors(t, put(read("(macro m (((#(?a etc)) 1)) (m x))"), []int{1, 1, 1, 0, 1, 0}, wide(1000)), 1, api.ErrLarge)
	if got := told(expand.Expand(put(read("(macro m (((#(?a etc)) 1)) (m x))"), []int{1, 1, 1, 0, 1, 0}, wide(999)), 1)); got != "1, 1" {
		t.Error(got)
	}
}

// errors fails unless all functions return an error for a program, with zero values.
func errors(t *testing.T, d api.Datum, most int, want api.Errno) {
	t.Helper()
	x, n, e := expand.Expand(d, most)
	y, m, f := expand.Plain(d, most)
	l, g := expand.Uses(d, most)
	b, h := expand.Captured(d, most)
	if e != want || f != want || g != want || h != want {
		t.Error(most, e, f, g, h, "want", want)
	}
	if n != 0 || m != 0 || len(l) > 0 || b || !sample.SameTerm(x, api.Term{}) || !sample.SameTerm(y, api.Term{}) {
		t.Error("no zero values beside", want)
	}
}

// TestTermSize: a term has at most 2000 terms, which is the last thing that is looked at, and Uses does not look at it (P6.1, P6.3).
func TestTermSize(t *testing.T) {
	t.Parallel()
	double := "(macro k ((() x) ((1 . ?a) ((k . ?a) (k . ?a)))) ..)"
	for n, terms := range map[int]int{0: 1, 1: 3, 2: 7, 8: 511} {
		out, steps, e := expand.Expand(read(in(double, "(k"+strings.Repeat(" 1", n)+")")), 1000)
		if e != api.OK || steps != terms || size(out) != terms {
			t.Error(n, steps, e)
		}
	}
	// ten terms of each use
	ten := "(macro n (((?a) (not (not (not (not (not (not (not (not (not (not ?a)))))))))))) ..)"
	large := func(more int) string {
		return strings.Repeat("(not ", more) + strings.Repeat("(n ", 199) + "x" + strings.Repeat(")", 199+more)
	}
	for more, want := range map[int]api.Errno{9: api.OK, 10: api.ErrLarge, 99: api.ErrLarge} {
		d := read(in(ten, large(more)))
		out, steps, e := expand.Expand(d, 199)
		plain, plainly, f := expand.Plain(d, 199)
		captured, g := expand.Captured(d, 199)
		if e != want || f != want || g != want || captured || e == api.OK && (steps != 199 || plainly != 199 || size(out) != 2000 || !sample.SameTerm(out, plain)) {
			t.Error(more, e, f, g, steps)
		}
		l, e := expand.Uses(d, 199)
		if e != api.OK || len(l) != 199 || l[198] != "n" {
			t.Error(more, len(l), e)
		}
	}
	errors(t, read(in(ten, "(f "+large(10)+" if)")), 199, api.ErrName)
	errors(t, read(in(ten, "(f "+large(10)+" (n))")), 200, api.ErrNone)
	errors(t, read(in(ten, "(f "+large(10)+" (n))")), 199, api.ErrLimit)
	errors(t, read(in(ten, "(f "+large(10)+" (fn (x x) x))")), 199, api.ErrTwice)
}

// TestUses is P6.3.
func TestUses(t *testing.T) {
	for _, x := range []struct{ program, want string }{
		{"x", ""}, {in(or2, "x"), ""}, {in(or2, "(or2 1 (or2 2 3))"), "or2 or2"}, {in(or2, "(let or2 f (or2 1 2))"), ""}, {"(macro a ((() (b)) ((?x) ?x)) (macro b ((?x (a . ?x))) (f (b) (a (b 1)))))", "b a a b a"},
		{"(macro b ((?x (a . ?x))) (macro a ((() (b)) ((?x) ?x)) (f (b 1) (a) (a (a 1)))))", "b a b a a"}, {"(macro a (((?x) ?x)) (macro b ((?x (a . ?x))) (f (b 1) (a (b (a 1))))))", "b a a b a a"}, {"(macro m ((() (macro k ((() 1)) (k)))) (f (m) (m)))", "m k m k"}, {"(macro ?m ((() 1)) (?m))", "?m"},
		{"(macro m (((?k) (macro ?k ((() 1)) (?k)))) (m etc))", "m etc"}, {in(prelude, "(cond ((or x y) 1) (else (list 2 3)))"), "cond or or cond list list list"}, {in(prelude, "(lets ((a (seq 1 2)) (b (and a 1))) (or b))"), "lets seq seq lets and and lets or"},
	} {
		if got := toldNames(expand.Uses(read(x.program), 12)); got != x.want {
			t.Error(x.program, got, "want", x.want)
		}
	}
}

// TestPrelude is P6.5.
func TestPrelude(t *testing.T) {
	for _, text := range []string{"x", "(or 1 2)", "#(if)", "(a . b)"} {
		if got := toldDatum(expand.Prelude(read(text))); got != show(read(in(prelude, text))) {
			t.Error(text, got)
		}
	}
	own := pieces(read(in(prelude, "x"))) - 1
	for _, x := range []struct {
		d    api.Datum
		want api.Errno
	}{{wide(1999 - own), api.OK}, {wide(2000 - own), api.ErrLarge}, {wide(1999), api.ErrLarge}, {wide(2000), api.ErrLarge}, {sym("X"), api.ErrName}, {api.Datum{Kind: -1}, api.ErrKind}, {api.Datum{Num: 1}, api.ErrForm}} {
		d, e := expand.Prelude(x.d)
		if e != x.want || e != api.OK && !same(d, api.Datum{}) || e == api.OK && pieces(d) != api.DatumSize {
			t.Error(show(x.d), e, pieces(d))
		}
	}
}

// TestApart is P6.1 to P6.4: what the functions return is what the chapter says, by a definition that is written apart.
func TestApart(t *testing.T) {
	t.Parallel()
	c := newChance(1)
	met := map[string]int{}
	for i := range 2500 {
		c.faults = i%3 == 0
		d := c.program()
		most := c.Below(30)
		right, used, e := expandApart(d, most, false)
		plain, plainly, f := expandApart(d, most, true)
		captured := f != api.OK || !sample.SameTerm(right, plain)
		for _, x := range [][2]string{
			{told(expand.Expand(d, most)), told(right, len(used), e)},
			{told(expand.Plain(d, most)), told(plain, len(plainly), f)},
			{toldNames(expand.Uses(d, most)), toldNames(used, e)},
			{toldBool(expand.Captured(d, most)), toldBool(captured, e)},
		} {
			if x[0] != x[1] {
				t.Error(show(d), most, x[0], "want", x[1])
			}
		}
		met[toldOr("", e)]++
		if e == api.OK && captured {
			met["captured"]++
		}
		if e == api.OK && len(used) > 1 {
			met["steps"]++
		}
	}
	if met[""] < 1300 || met["captured"] < 130 || met["steps"] < 300 || met["error 10"] < 120 || met["error 12"] < 120 {
		t.Error(met)
	}
}
