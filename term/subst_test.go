package term_test

import (
	"slices"
	"strconv"
	"strings"
	"testing"

	"caracole/api"
	"caracole/sample"
	"caracole/term"
)

func TestSubst(t *testing.T) {
	for _, x := range []struct{ t, name, s, want string }{
		{"x", "x", "(f y)", "(f y)"}, {"y", "x", "1", "y"}, {"(quote x)", "x", "1", "(quote x)"}, {"(x y x)", "x", "(y)", "((y) y (y))"},
		{"(fn (x) x)", "x", "y", "(fn (x) x)"}, {"(fn (y) x)", "x", "y", "(fn (y1) y)"}, {"(fn (y) y)", "x", "y", "(fn (y) y)"}, {"(fn (y) (x y))", "x", "z", "(fn (y) (z y))"},
		{"(fn (y) (x y1))", "x", "y", "(fn (y2) (y y1))"}, {"(fn (y y1) (x y))", "x", "y", "(fn (y2 y1) (y y2))"}, {"(fn (y) (x y))", "x", "(y y1)", "(fn (y2) ((y y1) y2))"},
		{"(fn (y z) (x y z))", "x", "(y z)", "(fn (y1 z1) ((y z) y1 z1))"}, {"(fn (y y1) (x y y1))", "x", "(y1 y)", "(fn (y2 y11) ((y1 y) y2 y11))"},
		{"(fn (a y) (x a y))", "x", "y", "(fn (a y1) (y a y1))"}, {"(fn (y x) x)", "x", "y", "(fn (y x) x)"},
		{"(let y (x y) (x y))", "x", "y", "(let y1 (y y) (y y1))"}, {"(let x x x)", "x", "y", "(let x y x)"}, {"(let y (x y) y)", "x", "y", "(let y (y y) y)"}, {"(let y (fn (y) x) y)", "x", "y", "(let y (fn (y1) y) y)"},
		{"(rec f (a) (x f a))", "x", "(f a)", "(rec f1 (a1) ((f a) f1 a1))"}, {"(rec f (f1) (x f f1))", "x", "f", "(rec f2 (f1) (f f2 f1))"}, {"(rec x (y) x)", "x", "y", "(rec x (y) x)"}, {"(rec f (y) (x f y))", "x", "y", "(rec f (y1) (y f y1))"},
		{"(fn (y) (fn (y1) (x y y1)))", "x", "y", "(fn (y1) (fn (y11) (y y1 y11)))"}, {"(fn (y) (fn (y) (x y)))", "x", "y", "(fn (y1) (fn (y1) (y y1)))"},
		{"(fn (y) (let y1 y (x y)))", "x", "y", "(fn (y1) (let y11 y1 (y y1)))"}, {"(fn (y) ((fn (y1) y1) x))", "x", "y", "(fn (y1) ((fn (y1) y1) y))"},
		{"(fn (abcdefghijklmnopqrst) (x abcdefghijklmno1))", "x", "abcdefghijklmnopqrst", "(fn (abcdefghijklmno2) (abcdefghijklmnopqrst abcdefghijklmno1))"},
		{"(fn (abcdefghijklmno abcdefghijklmnop) (x abcdefghijklmnop))", "x", "(abcdefghijklmnop abcdefghijklmno)", "(fn (abcdefghijklmno1 abcdefghijklmno2) ((abcdefghijklmnop abcdefghijklmno) abcdefghijklmno2))"},
		{"(rec abcdefghijklmnop (abcdefghijklmno) x)", "x", "(abcdefghijklmno abcdefghijklmnop)", "(rec abcdefghijklmno1 (abcdefghijklmno2) (abcdefghijklmno abcdefghijklmnop))"},
		{"(if x (emit x) (marks))", "x", "(marks)", "(if (marks) (emit (marks)) (marks))"},
	} {
		if got := told(term.Subst(parse(x.t), x.name, parse(x.s))); got != x.want {
			t.Error(x.t, x.name, x.s, got, "want", x.want)
		}
	}
}

func TestSubstAll(t *testing.T) {
	for _, x := range []struct{ t, names, l, want string }{
		{"(x y)", "", "", "(x y)"}, {"(x y z)", "x y", "y; x", "(y x z)"}, {"(x y)", "y x", "(x); (y)", "((y) (x))"},
		{"(fn (x) (x y))", "x y", "1; 2", "(fn (x) (x 2))"}, {"(fn (x) (x y))", "x y", "y; x", "(fn (x1) (x1 x))"}, {"(fn (z) (x z))", "x y", "1; z", "(fn (z) (1 z))"}, {"(fn (z) (x y z))", "x y", "1; z", "(fn (z1) (1 z z1))"},
		{"(fn (y) (x y))", "x y1", "y; 5", "(fn (y1) (y y1))"}, {"(fn (y) (x y y1))", "x y1", "y; 5", "(fn (y2) (y y2 5))"}, {"(let x (x y) (x y))", "x y", "y; x", "(let x1 (y x) (x1 x))"},
		{"(rec x (y) (x y z))", "x y z", "1; 2; (x y)", "(rec x1 (y1) (x1 y1 (x y)))"},
	} {
		var l []api.Term
		if x.l != "" {
			l = parseAll(strings.Split(x.l, "; ")...)
		}
		if got := told(term.SubstAll(parse(x.t), strings.Fields(x.names), l)); got != x.want {
			t.Error(x.t, x.names, x.l, got, "want", x.want)
		}
	}
}

// someExchange is terms for some names, by chance.
func someExchange(r *sample.Random) (names []string, l []api.Term, by map[string]api.Term) {
	names = r.Names(4)
	by = map[string]api.Term{}
	for _, n := range names {
		s := r.Term(r.Below(3))
		l = append(l, s)
		by[n] = s
	}
	return names, l, by
}

// TestSubstOften compares substitutions with what the chapter says, done step by step, and with what they mean.
func TestSubstOften(t *testing.T) {
	r := sample.NewRandom(6)
	renamed := 0
	for _, x := range terms(7, 4000) {
		names, l, by := someExchange(r)
		want := replaced(x, by)
		got, e := term.SubstAll(x, names, l)
		if e != api.OK || !same(got, want) {
			t.Error(text(x), names, text(call(x, l...)), text(got), e, "want", text(want))
		}
		if nameless(got, nil) != nameless(x, by) {
			t.Error(text(x), names, text(call(x, l...)), text(got))
		}
		if !slices.Equal(binders(x), binders(got)) {
			renamed++
		}
		if len(names) == 1 {
			if other, f := term.Subst(x, names[0], l[0]); f != e || !same(got, other) {
				t.Error(text(x), text(got), text(other))
			}
		}
	}
	if renamed < 300 {
		t.Error(renamed)
	}
}

// chain is functions in one another, of which each one binds a name, around a call of all of them and of more.
func chain(names []string, more ...string) api.Term {
	t := quote(num(0))
	for _, n := range append(slices.Clone(more), names...) {
		t = call(variable(n), t)
	}
	for _, n := range slices.Backward(names) {
		t = api.Term{Op: api.Fn, Names: []string{n}, Args: []api.Term{t}}
	}
	return t
}

// TestSubstChains: new names of outer functions are names of inner ones, which have to be renamed in turn.
func TestSubstChains(t *testing.T) {
	long := strings.Repeat("n", 15)
	var names, odd, others []string
	for i := range 24 {
		names = append(names, long+strconv.Itoa(i+1))
		others = append(others, "y"+strings.Repeat("1", i%15))
		if i%2 == 0 {
			odd = append(odd, names[i])
		}
	}
	for i, x := range []struct{ t, s api.Term }{
		{chain(names, "x"), chain(nil, odd...)}, {chain(names, "x"), chain(nil, names...)}, {chain(others[:15], "x"), variable("y")}, {chain(others, "x"), chain(nil, others...)}, {chain(names, "x"), variable(names[0])},
	} {
		want := replaced(x.t, map[string]api.Term{"x": x.s})
		if got, e := term.Subst(x.t, "x", x.s); e != api.OK || !same(got, want) || nameless(got, nil) != nameless(x.t, map[string]api.Term{"x": x.s}) {
			t.Error(i, text(got), e, "want", text(want))
		}
	}
}

// TestSubstLarge: a substitution returns soon also if most names have to be renamed.
func TestSubstLarge(t *testing.T) {
	var names []string
	for i := range 650 {
		names = append(names, "n"+strconv.Itoa(i))
	}
	x, s := chain(names, "x"), chain(nil, names[:5]...)
	if got, e := term.Subst(x, "x", s); e != api.OK || nameless(got, nil) != nameless(x, map[string]api.Term{"x": s}) {
		t.Error(size(got), e)
	}
	var l []api.Term
	for i := range names {
		l = append(l, variable(names[(i+1)%650]))
	}
	open := chain(nil, names...)
	turned := chain(nil, append(slices.Clone(names[1:]), names[0])...)
	if got, e := term.SubstAll(open, names, l); e != api.OK || !same(got, turned) {
		t.Error(size(got), e)
	}
}

func TestSubstLimit(t *testing.T) {
	f := call(variable("f"), slices.Repeat([]api.Term{variable("x")}, 6)...) // 8 terms
	for i, x := range []struct {
		t, s api.Term
		want api.Errno
	}{
		{variable("x"), deep(2000), api.OK}, {parse("(x)"), deep(1999), api.OK}, {parse("(x)"), deep(2000), api.ErrLarge},
		{f, bushy(333, variable("y")), api.OK}, {f, bushy(332, variable("x")), api.OK}, {f, bushy(334, variable("y")), api.ErrLarge},
		{bushy(2000, variable("x")), parse("y"), api.OK}, {bushy(2000, variable("x")), parse("(y)"), api.ErrLarge}, {bushy(2000, variable("x")), bushy(2000, variable("x")), api.ErrLarge},
		{bushy(2000, variable("y")), bushy(2000, variable("x")), api.OK}, {parse("(let y x (fn (x) (x y)))"), bushy(1996, variable("y")), api.ErrLarge}, {parse("(let y x (fn (x) (x y)))"), bushy(1995, variable("y")), api.OK},
	} {
		got, e := term.Subst(x.t, "x", x.s)
		if e != x.want || e == api.OK && size(got) > api.TermSize || e != api.OK && !same(got, api.Term{}) {
			t.Error(i, size(got), e, "want", x.want)
		}
	}
}

func TestSubstErrors(t *testing.T) {
	bad, x := api.Term{Op: -1}, variable("x")
	for i, y := range []struct {
		names []string
		l     []api.Term
		want  api.Errno
	}{
		{[]string{"x", "if", "x"}, nil, api.ErrName}, {[]string{"x", "x", "if"}, nil, api.ErrTwice}, {[]string{""}, []api.Term{bad}, api.ErrName}, {[]string{"y", "x", "y"}, []api.Term{bad}, api.ErrTwice},
		{[]string{"x", "y"}, []api.Term{bad}, api.ErrFew}, {[]string{"x"}, nil, api.ErrFew}, {[]string{"x"}, []api.Term{bad, bad}, api.ErrMany}, {nil, []api.Term{bad}, api.ErrMany},
		{[]string{"x", "y"}, []api.Term{x, bad}, api.ErrKind}, {[]string{"x", "y"}, []api.Term{{Op: api.If}, bad}, api.ErrFew}, {[]string{"y", "x"}, []api.Term{deep(2001), bad}, api.ErrLarge}, {[]string{"y", "x"}, []api.Term{deep(2000), parse("(f)")}, api.OK},
	} {
		if got, e := term.SubstAll(x, y.names, y.l); e != y.want || e != api.OK && !same(got, api.Term{}) {
			t.Error(i, text(got), e, "want", y.want)
		}
		if got, e := term.SubstAll(bad, y.names, y.l); e != api.ErrKind || !same(got, api.Term{}) {
			t.Error(i, text(got), e)
		}
	}
	for _, name := range []string{"", "if", "car", "X", "-1", strings.Repeat("x", 21)} {
		if got, e := term.Subst(x, name, x); e != api.ErrName || !same(got, api.Term{}) {
			t.Error(name, text(got), e)
		}
	}
}
