package term_test

import (
	"slices"
	"strconv"
	"strings"
	"testing"

	"caracole/api"
	"caracole/term"
)

func TestSize(t *testing.T) {
	for _, x := range []struct {
		t           api.Term
		terms, deep int
	}{{parse("x"), 1, 1}, {parse("(quote (1 2 3))"), 1, 1}, {parse("(marks)"), 1, 1}, {parse("(fn (x y) 1)"), 2, 2}, {parse("(f (g (h 1)) 2)"), 8, 4}, {parse("(let x (f) (emit (car y)))"), 6, 4}, {deep(2000), 2000, 2000}, {bushy(2000, variable("x")), 2000, 5}} {
		if n, m, e := term.Size(x.t); n != x.terms || m != x.deep || e != api.OK {
			t.Error(size(x.t), n, m, e)
		}
	}
	for _, x := range terms(3, 300) {
		long := 0
		for _, path := range allPaths(x) {
			long = max(long, len(path)+1)
		}
		if n, m, e := term.Size(x); n != len(allPaths(x)) || m != long || e != api.OK {
			t.Error(text(x), n, m, e)
		}
	}
}

func TestFree(t *testing.T) {
	for s, want := range map[string]string{
		"1": "", "x": "x", "(quote x)": "", "(f x y x)": "f x y", "(z y x)": "x y z", "(a- aa a a1)": "a a- a1 aa",
		"(fn (x y) (x y z))": "z", "(fn () x)": "x", "(let x y x)": "y", "(let x x 1)": "x", "(let x 1 (let y x (x y)))": "",
		"(rec f (x) (f x y))": "y", "(rec f () (fn (f) f))": "", "((fn (x) x) x)": "x", "(if (fn (x) x) x (fn (y) x))": "x", "((let x x x) (fn (x) x) (rec x () x))": "x",
	} {
		if got := toldNames(term.Free(parse(s))); got != want {
			t.Error(s, got, "want", want)
		}
	}
	for _, x := range terms(4, 600) {
		if l, e := term.Free(x); e != api.OK || !slices.Equal(l, sorted(freeVars(x))) {
			t.Error(text(x), l, e)
		}
	}
}

func TestSame(t *testing.T) {
	for i, group := range []string{
		"x", "y", "1", "(quote (1))", "(quote #(1))", "(quote x)", "(marks)",
		"(fn (x) x); (fn (y) y); (fn (v1) v1)", "(fn (x) y); (fn (x1) y)", "(fn (x) x1)", "(fn () 1)", "(fn (x) 1); (fn (y) 1)", "(fn (x y) x); (fn (y x) y)", "(fn (x y) y); (fn (y x) x)",
		"(fn (x) (fn (x) x)); (fn (x) (fn (y) y)); (fn (z) (fn (x) x))", "(fn (x) (fn (y) x)); (fn (y) (fn (x) y))",
		"(let x x x); (let y x y)", "(let x y x); (let y y y)", "(let x x y)", "(let x (fn (x) x) x); (let a (fn (b) b) a)",
		"(rec f (x) (f x)); (rec x (f) (x f)); (rec g (y) (g y))", "(rec f (x) (x f)); (rec x (f) (f x))", "(rec f () 1); (rec g () 1)", "(rec f (x) (fn (f) f)); (rec f (x) (fn (x) x))",
		"(f x)", "(f y)", "(x f)", "(f x x)", "(car x)", "(cdr x)", "(if x y z)", "((fn (x) x) x)", "((fn (y) y) x1)", "(mark x y)", "(handle x y)", "(apply x y)",
	} {
		for _, a := range strings.Split(group, "; ") {
			for k, other := range []string{"x", "(fn (x) x)", "(fn (x y) y)", "(fn (x) (fn (y) x))", "(let x x x)", "(rec f (x) (f x))", "(rec f () 1)", "(mark x y)", group} {
				for _, b := range strings.Split(other, "; ") {
					want := k == 8 || slices.Contains(strings.Split(group, "; "), b)
					if is, e := term.Same(parse(a), parse(b)); is != want || e != api.OK {
						t.Error(i, a, b, is, e)
					}
				}
			}
		}
	}
}

// binders are all names that are bound in a term, in the order of P4.4.
func binders(t api.Term) []string {
	var l []string
	if t.Op == api.Let || t.Op == api.Rec {
		l = append(l, t.Name)
	}
	l = append(l, t.Names...)
	for _, a := range t.Args {
		l = append(l, binders(a)...)
	}
	return l
}

// vNames are the first n names v1, v2 and so on, but for some.
func vNames(n int, but []string) []string {
	var l []string
	for i := 1; len(l) < n; i++ {
		if name := "v" + strconv.Itoa(i); !slices.Contains(but, name) {
			l = append(l, name)
		}
	}
	return l
}

func TestCanon(t *testing.T) {
	for s, want := range map[string]string{
		"x": "x", "(quote v1)": "(quote v1)", "(fn (a b) (b a c))": "(fn (v1 v2) (v2 v1 c))", "(rec f (x y) (f x y))": "(rec v1 (v2 v3) (v1 v2 v3))",
		"(let x (fn (x) x) x)": "(let v1 (fn (v2) v2) v1)", "((fn (v2) v2) (fn (v1) v1))": "((fn (v1) v1) (fn (v2) v2))", "(v1 (fn (x) (fn (y) (x v3))))": "(v1 (fn (v2) (fn (v4) (v2 v3))))",
		"(let x x (let x x x))": "(let v1 x (let v2 v1 v2))", "(fn (x) (fn (x) x))": "(fn (v1) (fn (v2) v2))", "((fn (x) ((fn (x) x) x)) x)": "((fn (v1) ((fn (v2) v2) v1)) x)",
	} {
		if got := told(term.Canon(parse(s))); got != want {
			t.Error(s, got, "want", want)
		}
	}
	for _, x := range terms(5, 600) {
		c, e := term.Canon(x)
		if e != api.OK || !alike(c, x) || !slices.Equal(binders(c), vNames(len(binders(x)), freeVars(x))) {
			t.Error(text(x), text(c), e)
		}
	}
}

func TestFresh(t *testing.T) {
	for _, x := range []struct{ name, taken, want string }{
		{"x", "", "x1"}, {"x", "x", "x1"}, {"x", "x2", "x1"}, {"x", "x1 x2 x4", "x3"}, {"x1", "x1", "x11"}, {"x", "x1 x2 x3 x4 x5 x6 x7 x8 x9 x10", "x11"},
		{"abcdefghijklmno", "", "abcdefghijklmno1"}, {"abcdefghijklmnop", "", "abcdefghijklmno1"}, {"abcdefghijklmnopqrst", "abcdefghijklmno1", "abcdefghijklmno2"},
		{"--", "", "--1"}, {"x", "if X1 (", "x1"}, {"macro", "", "macro1"}, {"?", "?1 ?1", "?2"},
		{"if", "", "error 2"}, {"", "", "error 2"}, {"X", "", "error 2"}, {"car", "car1", "error 2"}, {"-", "", "error 2"}, {"-1", "", "error 2"}, {"abcdefghijklmnopqrstu", "", "error 2"},
	} {
		if got := toldOr(term.Fresh(x.name, strings.Fields(x.taken))); got != x.want {
			t.Error(x.name, x.taken, got, "want", x.want)
		}
	}
	taken := []string{"", "\xff", "x 1", strings.Repeat("x", 99)}
	for i := range 3000 {
		taken = append(taken, "x"+strconv.Itoa(3000-i))
	}
	if got := toldOr(term.Fresh("x", taken)); got != "x3001" {
		t.Error(got)
	}
}
