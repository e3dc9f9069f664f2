package expand_test

import (
	"slices"
	"testing"

	"caracole/api"
	"caracole/expand"
	"caracole/sample"
	"caracole/term"
)

// equal fails unless two programs have the same expansion, or the same error.
func equal(t *testing.T, a, b api.Datum) {
	t.Helper()
	if got, want := told(expand.Expand(a, 50)), told(expand.Expand(b, 50)); got != want {
		t.Error(show(a), got, "but", show(b), want)
	}
}

// isTerm fails unless a program has an expansion, in as many steps.
func isTerm(t *testing.T, d api.Datum, want api.Term, steps int) {
	t.Helper()
	canon, e := term.Canon(want)
	if got, want := told(expand.Expand(d, 1000)), told(canon, steps, e); got != want {
		t.Error(show(d), got, "want", want)
	}
}

// called is a datum with another text for a symbol.
func called(d api.Datum, old, name string) api.Datum {
	return change(d, func(s string) string {
		if s == old {
			return name
		}
		return s
	})
}

// holes are the symbols that with and withTerms put something in the place of.
func holes() []string { return []string{"p1", "p2", "p3"} }

// with is a datum with parts in the place of p1, p2 and p3.
func with(d api.Datum, parts ...api.Datum) api.Datum {
	if i := slices.Index(holes(), d.Text); i >= 0 && i < len(parts) && d.Kind == api.Sym {
		return parts[i]
	}
	d.Parts = slices.Clone(d.Parts)
	for i, p := range d.Parts {
		d.Parts[i] = with(p, parts...)
	}
	return d
}

// withTerms is a term with others in the place of p1, p2 and p3.
func withTerms(t api.Term, parts ...api.Term) api.Term {
	if i := slices.Index(holes(), t.Name); i >= 0 && i < len(parts) && t.Op == api.Var {
		return parts[i]
	}
	t.Args = slices.Clone(t.Args)
	for i, a := range t.Args {
		t.Args[i] = withTerms(a, parts...)
	}
	return t
}

// TestCore is P6.6: a program without macros is its term, or has the error of it.
func TestCore(t *testing.T) {
	t.Parallel()
	c := newChance(2)
	for i := range 3000 {
		d := sample.TermData(c.Term(i % 6))
		x, e := term.OfDatum(d)
		isTerm(t, d, x, 0)
		if e != api.OK {
			t.Fatal(show(d), e)
		}
		paths := allPaths(d)
		d = put(d, paths[c.Below(len(paths))], c.fault())
		if slices.Contains(texts(d), "macro") {
			continue
		}
		if x, e = term.OfDatum(d); e == api.OK {
			isTerm(t, d, x, 0)
			continue
		}
		errors(t, d, 9, e)
	}
}

// TestNames is P6.7: another name for what a template binds changes nothing, whatever names the program has.
func TestNames(t *testing.T) {
	t.Parallel()
	for _, d := range programs(3, 12, 40) {
		for _, text := range []string{
			"(macro q (((?x ?b) (let own ?x (if own own ?b)))) ..)",
			"(macro q (((?x ?b) ((fn (own) (if own own ?b)) ?x))) ..)",
			"(macro q (((?x ?b) (rec own (?x) (own ?x (fn (own) own) ?b)))) ..)",
			"(macro q (((?x ?b) (macro own ((() ?x)) (cons (own) ?b)))) ..)",
			"(macro q (((?x ?b) (let own (car ?x) (fn (own ?x) (own (let own own ?b)))))) ..)",
		} {
			first := with(read(in(text, "(f p1 (q x (q t p1)))")), d)
			for _, name := range []string{"t", "x", "y", "f", "m", "k", "q", "v1", "v2", "?"} {
				equal(t, first, called(first, "own", name))
			}
		}
	}
}

// TestOwn is P6.8: another name for what the program binds changes nothing, whatever names the templates have.
func TestOwn(t *testing.T) {
	t.Parallel()
	around := in("(macro a (((?x ?b) (let t 1 (fn (?x) (t x ?x ?b)))) ((?b) (f ?b (quote t)))) ..)", "(macro b (((lit ?a ?b) (?a f)) ((?a ?b) (let ?a (fn (t f) (x t)) ?b))) ..)", "p1")
	for _, text := range []string{
		"(fn (own) (b own (a (own 5))))", "(let own 2 (a own (b y (own y))))", "(rec own (y) (a y (own (b own own))))", "(fn (own) (let z (a own own) (fn (own) (b z (own z)))))", "(b own (b own (a own (own 3))))", "(a own (own (a own own)))", "(fn (y) (macro own (((?a) (y ?a))) (a z (own (own z)))))", "(b own (macro k ((?a 5)) (k own own)))",
	} {
		first := with(read(around), read(text))
		if _, _, e := expand.Expand(first, 9); e != api.OK {
			t.Error(text, e)
		}
		for _, name := range []string{"t", "x", "f", "lit", "v1", "v2", "etc", "?a"} {
			equal(t, first, called(first, "own", name))
		}
	}
	// A name that is bound is no literal of a pattern, whatever its text is.
	for _, name := range []string{"own", "lit"} {
		errors(t, called(with(read(around), read("(fn (own) (b (own) y y))")), "own", name), 9, api.ErrNone)
		errorsExpand(t, called(with(read(around), read("(fn (own) (b own y y))")), "own", name), 9, api.ErrNone)
	}
}

// TestOwnMany is P6.8 for programs by chance. The name own is in no rule and in nothing that is quoted, and the name that it becomes is in rules alone.
func TestOwnMany(t *testing.T) {
	t.Parallel()
	c := newChance(4)
	done := 0
	for range 700 {
		c.macros, c.closed, c.names = nil, false, []string{"other", "other", "x", "t"}
		var fronts []api.Datum
		for range 2 {
			front, k := c.front()
			fronts = append(fronts, front)
			c.macros = append(c.macros, k)
		}
		c.closed, c.names = true, []string{"own", "own", "x", "t"}
		d := list(sym("fn"), list(sym("own")), unquoted(c.datum(4)))
		for _, front := range slices.Backward(fronts) {
			d = inside(front, d)
		}
		equal(t, d, called(d, "own", "other"))
		if _, n, e := expand.Expand(d, 60); e == api.OK && n > 0 && slices.Contains(texts(list(fronts...)), "other") {
			done++
		}
	}
	if done < 150 {
		t.Error(done)
	}
}

// unquoted is a program with nothing quoted in it.
func unquoted(d api.Datum) api.Datum {
	if l, _ := elements(d); len(l) == 2 && l[0].Text == "quote" {
		return num(8)
	}
	d.Parts = slices.Clone(d.Parts)
	for i, p := range d.Parts {
		d.Parts[i] = unquoted(p)
	}
	return d
}

// TestParts is P6.9: the expansion of a form is the form of the expansions of its parts, and the steps add up.
func TestParts(t *testing.T) {
	t.Parallel()
	all := programs(5, 600, 30)
	r := sample.NewRandom(6)
	for _, text := range []string{"(p1 p2)", "(p1)", "(p1 p2 p3)", "(if p1 p2 p3)", "(+ p1 p2)", "(car p1)", "(apply p1 p2)", "(handle p1 p2)", "(signal p1)", "(mark p1 p2)", "(emit p1)", "(fn (own) p1)", "(let own p1 p2)", "(rec own (own2 own3) p1)", "(f (marks) p1 (quote if) (cons p2 (fn () (let own 2 p3))))"} {
		for range 60 {
			steps := 0
			var parts []api.Datum
			var terms []api.Term
			for _, hole := range holes() {
				d := all[r.Below(len(all))]
				x, n := must(t, d)
				parts, terms = append(parts, d), append(terms, x)
				if slices.Contains(texts(read(text)), hole) {
					steps += n
				}
			}
			whole := with(read(text), parts...)
			want := withTerms(sample.Term(text), terms...)
			if pieces(whole) <= api.DatumSize && size(want) <= api.TermSize {
				isTerm(t, whole, want, steps)
			}
		}
	}
}

// TestUnused is P6.10: a macro that is not used changes nothing.
func TestUnused(t *testing.T) {
	t.Parallel()
	c := newChance(7)
	for i := range 200 {
		c.faults = i%4 == 0
		d := c.program()
		for _, text := range []string{"(macro unused () p1)", "(macro unused (((?a etc) (x t ?a etc (unused)))) p1)", "(macro unused ((?x (let x ?x (fn (t) (unused t))))) p1)"} {
			equal(t, d, with(read(text), d))
			equal(t, with(read("(fn (x) (f p1 p1))"), d), with(read("(fn (x) (f p1 p2))"), d, with(read(text), d)))
			equal(t, with(read("(macro q (((?b) (fn (x) ?b))) (q p1))"), d), with(read("(macro q (((?b) (fn (x) ?b))) (q p2))"), d, with(read(text), d)))
		}
	}
}

// TestPreludeTerms is P6.11: the macros of the prelude are the terms that they should be, with any programs as parts.
func TestPreludeTerms(t *testing.T) {
	t.Parallel()
	all := append(programs(8, 300, 30), readAll("(or t x)", "(lets ((t 1) (x t)) (and t x))", "(list t own)", "(cond (t x) (else t))", "(seq t (let t 1 t))", "(let or 1 (or 2))", "(fn (else) (cond (else t)))")...)
	r := sample.NewRandom(9)
	for _, x := range []struct {
		program, term string
		steps         int
	}{
		{"(or)", "#f", 1}, {"(or p1)", "p1", 1}, {"(or p1 p2)", "(let o1 p1 (if o1 o1 p2))", 2}, {"(or p1 p2 p3)", "(let o1 p1 (if o1 o1 (let o2 p2 (if o2 o2 p3))))", 3},
		{"(and)", "#t", 1}, {"(and p1)", "p1", 1}, {"(and p1 p2 p3)", "(if p1 (if p2 p3 #f) #f)", 3},
		{"(seq p1)", "p1", 1}, {"(seq p1 p2)", "(let o1 p1 p2)", 2}, {"(seq p1 p2 p3)", "(let o1 p1 (let o2 p2 p3))", 3},
		{"(lets () p1)", "p1", 1}, {"(lets ((o1 p1)) p2)", "(let o1 p1 p2)", 2}, {"(lets ((o1 p1) (o2 (o1 p2))) (o2 p3))", "(let o1 p1 (let o2 (o1 p2) (o2 p3)))", 3}, {"(lets ((o1 p1) (o1 o1)) o1)", "(let o1 p1 (let o2 o1 o2))", 3},
		{"(cond)", "#f", 1}, {"(cond (p1 p2))", "(if p1 p2 #f)", 2}, {"(cond (p1 p2) (else p3))", "(if p1 p2 p3)", 2}, {"(cond (else p1) (p2 p3))", "p1", 1}, {"(let else 1 (cond (else p1)))", "(let o1 1 (if o1 p1 #f))", 2}, {"(cond ((quote else) p1))", "(if (quote else) p1 #f)", 2},
		{"(list)", "()", 1}, {"(list p1)", "(cons p1 ())", 2}, {"(list p1 p2 p3)", "(cons p1 (cons p2 (cons p3 ())))", 4},
		{"(or (and p1 p2) (list p3))", "(let o1 (if p1 p2 #f) (if o1 o1 (cons p3 ())))", 6},
	} {
		for range 40 {
			steps := x.steps
			var parts []api.Datum
			var terms []api.Term
			for _, hole := range holes() {
				d := all[r.Below(len(all))]
				if slices.Contains(texts(read(x.program)), "let") && slices.Contains(texts(d), "else") {
					d = sym("t") // what the program binds is not free in parts
				}
				inside, e := expand.Prelude(d)
				if e != api.OK {
					t.Fatal(e)
				}
				out, n := must(t, inside)
				parts, terms = append(parts, d), append(terms, out)
				if slices.Contains(texts(read(x.term)), hole) {
					steps += n
				}
			}
			whole, e := expand.Prelude(with(read(x.program), parts...))
			want := withTerms(sample.Term(x.term), terms...)
			if e == api.OK && size(want) <= api.TermSize {
				isTerm(t, whole, want, steps)
			}
		}
	}
}

// TestSteps is P6.12: with as many steps as there are the term is the same, with one less it is ErrLimit.
func TestSteps(t *testing.T) {
	t.Parallel()
	met := 0
	for _, d := range programs(10, 600, 60) {
		want, steps := must(t, d)
		for _, most := range []int{steps, steps + 1, 1000} {
			if got := told(expand.Expand(d, most)); got != told(want, steps, api.OK) {
				t.Error(show(d), most, got)
			}
		}
		for most := range steps {
			errorsExpand(t, d, most, api.ErrLimit)
			met++
		}
		if l, e := expand.Uses(d, steps); e != api.OK || len(l) != steps {
			t.Error(show(d), l, e)
		}
	}
	if met < 300 {
		t.Error(met)
	}
}

// errorsExpand fails unless Expand and those that go by it return an error.
func errorsExpand(t *testing.T, d api.Datum, most int, want api.Errno) {
	t.Helper()
	_, _, e := expand.Expand(d, most)
	_, f := expand.Uses(d, most)
	_, g := expand.Captured(d, most)
	if e != want || f != want || g != want {
		t.Error(show(d), most, e, f, g, "want", want)
	}
}

// TestFree is P6.13: the free names of the term are texts of symbols of the program.
func TestFree(t *testing.T) {
	t.Parallel()
	met := 0
	for _, d := range programs(11, 800, 60) {
		x, _ := must(t, d)
		free, _ := term.Free(x)
		known := texts(d)
		for _, name := range free {
			met++
			if !slices.Contains(known, name) {
				t.Error(show(d), sample.TermText(x), name)
			}
		}
	}
	if met < 500 {
		t.Error(met)
	}
}

// TestPlain is P6.14: if no name of a template is one of the program, the plain expansion is the same.
func TestPlain(t *testing.T) {
	t.Parallel()
	macros := []struct{ name, rules, patterns string }{
		{"q1", "(((?a ?b) (let o1 ?a (if o1 o1 ?b))) ((?x ?a ?b) (fn (?x o2) (?a o2 ?x ?b))))", "((?a ?b) (?x ?a ?b))"},
		{"q2", "((((?a etc) ?b) (let o3 (fn (o4) (o4 ?b)) (o3 ?a etc))) ((?a) ((rec o5 (o6) (o5 ?a o6)) ?a)))", "(((?a etc) ?b) (?a))"},
		{"q3", "(((?a) ?a) ((?a ?b etc) (let o7 ?a (q3 ?b etc))) (() #(5)))", "((?a ?b etc) (?a))"},
	}
	c := newChance(12)
	c.names = []string{"x", "y", "z"}
	around := "p1"
	for _, m := range slices.Backward(macros) {
		around = "(macro " + m.name + " " + m.rules + " " + around + ")"
		l, _ := elements(read(m.patterns))
		c.macros = append(c.macros, known{name: m.name, patterns: l})
	}
	c.closed = true
	met := 0
	for range 900 {
		d := with(read(around), c.datum(4))
		want, steps, e := expand.Expand(d, 200)
		if got := told(expand.Plain(d, 200)); got != told(want, steps, e) {
			t.Error(show(d), got, told(want, steps, e))
		}
		if captured, f := expand.Captured(d, 200); captured || f != e {
			t.Error(show(d), captured, f)
		}
		if e == api.OK {
			met += steps
		}
	}
	if met < 1000 {
		t.Error(met)
	}
}

// TestShadowed is P6.15: a macro that is defined again inside, or whose name is bound, does not matter there.
func TestShadowed(t *testing.T) {
	t.Parallel()
	c := newChance(13)
	for i := range 120 {
		c.faults = i%4 == 0
		d := c.program()
		for _, inside := range []string{"(fn (m) p1)", "(fn (x m y) p1)", "(let m (f x) p1)", "(rec m (x) p1)", "(rec f (m) p1)", "(macro m (((?a) (f (m ?a ?a))) (() 5)) p1)", "(fn (x) (let m x (fn (m) p1)))"} {
			for _, outside := range []string{"(macro m ((?a 7)) p1)", "(macro m (((?a ?b etc) (fn (x) (m ?b etc))) (() x)) p1)"} {
				equal(t, with(read(inside), d), with(read(outside), with(read(inside), d)))
			}
		}
	}
}
