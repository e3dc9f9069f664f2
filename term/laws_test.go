package term_test

import (
	"maps"
	"slices"
	"testing"

	"caracole/api"
	"caracole/datum"
	"caracole/sample"
	"caracole/term"
)

// must is what a function returns for terms that are valid.
func must[T any](t *testing.T) func(out T, e api.Errno) T {
	return func(out T, e api.Errno) T {
		t.Helper()
		if e != api.OK {
			t.Fatal(e)
		}
		return out
	}
}

// renamed is a term that is the same, with other names for some of those that it binds.
func renamed(r *sample.Random, t api.Term) api.Term {
	t = sample.CopyTerm(t)
	for i := range t.Args {
		t.Args[i] = renamed(r, t.Args[i])
	}
	last := len(t.Args) - 1
	if last < 0 {
		return t
	}
	for k, old := range boundBy(t, last) {
		name := r.Name()
		if r.Below(2) == 0 || slices.Contains(boundBy(t, last), name) || isFree(name, t.Args[last]) {
			continue
		}
		t.Args[last] = replaced(t.Args[last], map[string]api.Term{old: variable(name)})
		rebind(&t, k, name)
	}
	return t
}

// TestBack is P4.9.
func TestBack(t *testing.T) {
	for _, x := range terms(11, 800) {
		d := must[api.Datum](t)(term.ToDatum(x))
		if back, e := term.OfDatum(d); e != api.OK || !same(back, x) {
			t.Error(text(x), show(d), text(back), e)
		}
	}
	r := sample.NewRandom(12)
	readable := 0
	for range 6000 {
		d := someCode(r, 4)
		x, e := term.OfDatum(d)
		if e != api.OK {
			continue
		}
		readable++
		written := must[api.Datum](t)(term.ToDatum(x))
		if again, e := term.OfDatum(written); e != api.OK || !same(again, x) {
			t.Error(show(d), show(written), text(again), e)
		}
	}
	if readable < 1500 {
		t.Error(readable)
	}
}

// someCode is a datum by chance that often can be read as a term.
func someCode(r *sample.Random, depth int) api.Datum {
	if depth == 0 || r.Below(3) == 0 {
		return []api.Datum{sym("x"), sym("f"), num(1), {}, str("s"), list(sym("quote"), r.Datum(2)), flag(1)}[r.Below(7)]
	}
	params := []api.Datum{{}, list(sym("x")), list(sym("x"), sym("y")), list(sym("x"), sym("x")), sym("x")}[r.Below(5)]
	l := [][]api.Datum{{}, {}, {sym("fn"), params}, {sym("let"), sym("x")}, {sym("rec"), sym("f"), params}, {sym("if")}, {sym("car")}, {sym("+")}, {sym("emit")}, {sym("marks")}}[r.Below(10)]
	args := map[string]int{"fn": 1, "let": 2, "rec": 1, "if": 3, "car": 1, "+": 2, "emit": 1}
	n := 1 + r.Below(3)
	if len(l) > 0 {
		n = args[l[0].Text]
	}
	if r.Below(30) == 0 {
		n++
	}
	for range n {
		l = append(l, someCode(r, depth-1))
	}
	return list(l...)
}

// TestSameLaws is P4.10.
func TestSameLaws(t *testing.T) {
	r := sample.NewRandom(13)
	is := must[bool](t)
	canon := must[api.Term](t)
	all := terms(14, 300)
	pairs := 0
	for i, a := range all {
		b := renamed(r, a)
		c := renamed(r, b)
		if !is(term.Same(a, a)) || !is(term.Same(a, b)) || !is(term.Same(b, a)) || !is(term.Same(a, c)) {
			t.Error(text(a), text(b), text(c))
		}
		if !same(a, b) {
			pairs++
		}
		other := all[(i*7+1)%len(all)]
		want := alike(a, other)
		ca, cb, co := canon(term.Canon(a)), canon(term.Canon(b)), canon(term.Canon(other))
		if is(term.Same(a, other)) != want || is(term.Same(other, a)) != want || same(ca, co) != want {
			t.Error(text(a), text(other), want)
		}
		if !same(ca, cb) || !is(term.Same(ca, a)) || !same(canon(term.Canon(ca)), ca) {
			t.Error(text(a), text(b), text(ca), text(cb))
		}
		keeps(t, a, b, other)
	}
	if pairs < 50 {
		t.Error(pairs)
	}
}

// keeps: all constructions of terms that are the same, or are not, are the same, or are not.
func keeps(t *testing.T, a, b, other api.Term) {
	t.Helper()
	if size(a)+size(other) > 900 {
		return
	}
	for _, s := range []string{"(hole 1)", "(f hole)", "(fn (x y) hole)", "(let x hole x)", "(let x y hole)", "(rec f (x) hole)", "(if 1 hole f)", "(cons hole 1)", "(apply f hole)", "(handle hole 1)", "(signal hole)", "(mark 1 hole)", "(emit hole)"} {
		fill := func(x api.Term) api.Term { return filled(parse(s), x) }
		if is, e := term.Same(fill(a), fill(b)); !is || e != api.OK {
			t.Error(s, text(a), text(b), e)
		}
		if is, e := term.Same(fill(a), fill(other)); is != alike(a, other) || e != api.OK {
			t.Error(s, text(a), text(other), is, e)
		}
	}
}

// filled has a term at the place of the Var hole, in which names may be caught.
func filled(t, x api.Term) api.Term {
	if t.Op == api.Var && t.Name == "hole" {
		return x
	}
	t.Args = slices.Clone(t.Args)
	for i, a := range t.Args {
		t.Args[i] = filled(a, x)
	}
	return t
}

// TestFreeLaws is P4.11, P4.12 and P4.15.
func TestFreeLaws(t *testing.T) {
	r := sample.NewRandom(15)
	names := must[[]string](t)
	subst := must[api.Term](t)
	for _, x := range terms(16, 800) {
		name, s := r.Name(), r.Term(r.Below(4))
		got := subst(term.Subst(x, name, s))
		want := slices.DeleteFunc(freeVars(x), func(n string) bool { return n == name })
		places := len(freeVars(x)) - len(want)
		if places > 0 {
			want = append(want, freeVars(s)...)
		}
		if l := names(term.Free(got)); !slices.Equal(l, sorted(want)) {
			t.Error(text(x), name, text(s), l, "want", want)
		}
		terms, _, e := term.Size(got)
		if whole, _, f := term.Size(x); terms != whole+places*(size(s)-1) || e != api.OK || f != api.OK {
			t.Error(text(x), name, text(s), terms, e)
		}
		if places == 0 && !same(got, x) {
			t.Error(text(x), name, text(s), text(got))
		}
		own := subst(term.Subst(x, name, variable(name)))
		if is, e := term.Same(own, x); !is || e != api.OK {
			t.Error(text(x), name, text(own), e)
		}
	}
}

// TestTwice is P4.13.
func TestTwice(t *testing.T) {
	r := sample.NewRandom(17)
	subst := must[api.Term](t)
	done := 0
	for _, x := range terms(18, 1500) {
		a, b := r.Name(), r.Name()
		s, u := r.Term(r.Below(3)), r.Term(r.Below(3))
		if a == b || isFree(a, u) {
			continue
		}
		one := subst(term.Subst(subst(term.Subst(x, a, s)), b, u))
		other := subst(term.Subst(subst(term.Subst(x, b, u)), a, subst(term.Subst(s, b, u))))
		if is, e := term.Same(one, other); !is || e != api.OK {
			t.Error(text(x), a, text(s), b, text(u), text(one), text(other))
		}
		done++
	}
	if done < 700 {
		t.Error(done)
	}
}

// TestOneByOne is P4.14.
func TestOneByOne(t *testing.T) {
	r := sample.NewRandom(19)
	subst := must[api.Term](t)
	for _, x := range terms(20, 800) {
		names, l, _ := someExchange(r)
		all := subst(term.SubstAll(x, names, l))
		one := x
		nowhere := []string{"p", "q", "r", "s"}
		for i, name := range names {
			one = subst(term.Subst(one, name, variable(nowhere[i])))
		}
		for i := range names {
			one = subst(term.Subst(one, nowhere[i], l[i]))
		}
		if is, e := term.Same(all, one); !is || e != api.OK {
			t.Error(text(x), names, text(all), text(one))
		}
	}
}

// TestPathLaws is P4.16.
func TestPathLaws(t *testing.T) {
	r := sample.NewRandom(21)
	get := must[api.Term](t)
	for _, x := range terms(22, 200) {
		paths := allPaths(x)
		for _, path := range paths {
			s := r.Term(2)
			put := get(term.Put(x, path, s))
			there := get(term.At(x, path))
			if !same(get(term.At(put, path)), s) || !same(there, follow(x, path)) || !same(get(term.Put(x, path, there)), x) || !same(get(term.Put(put, path, there)), x) {
				t.Error(text(x), path, text(s))
			}
			other, u := paths[r.Below(len(paths))], r.Term(2)
			if n := min(len(path), len(other)); slices.Equal(path[:n], other[:n]) {
				continue
			}
			if one, two := get(term.Put(put, other, u)), get(term.Put(get(term.Put(x, other, u)), path, s)); !same(one, two) || !same(get(term.At(one, path)), s) || !same(get(term.At(put, other)), follow(x, other)) {
				t.Error(text(x), path, other)
			}
		}
	}
}

// TestBoundLaws is P4.17.
func TestBoundLaws(t *testing.T) {
	names := must[[]string](t)
	const mark = "nowhere"
	for _, x := range terms(23, 300) {
		for _, path := range allPaths(x) {
			l := names(term.Bound(x, path))
			if !slices.Equal(l, sorted(l)) {
				t.Error(text(x), path, l)
			}
			// A Var of the name at this place is free in the whole just if the name is not bound there.
			for _, name := range []string{"x", "y", "v1", mark} {
				put, e := term.Put(hidden(x, name, mark+"1"), path, variable(name))
				if e != api.OK {
					t.Fatal(e)
				}
				if free := slices.Contains(names(term.Free(put)), name); free == slices.Contains(l, name) {
					t.Error(text(x), path, name, l, free)
				}
			}
			if v := follow(x, path); v.Op == api.Var && !slices.Contains(l, v.Name) && !isFree(v.Name, x) {
				t.Error(text(x), path, l)
			}
		}
	}
}

// hidden is a term with another name for all Vars of a name, but not for what binds it.
func hidden(t api.Term, name, other string) api.Term {
	t = sample.CopyTerm(t)
	if t.Op == api.Var && t.Name == name {
		t.Name = other
	}
	for i, a := range t.Args {
		t.Args[i] = hidden(a, name, other)
	}
	return t
}

// TestAlpha is P4.18.
func TestAlpha(t *testing.T) {
	r := sample.NewRandom(24)
	get := must[api.Term](t)
	for _, x := range terms(25, 800) {
		names, l, by := someExchange(r)
		var others []api.Term
		for _, s := range l {
			others = append(others, renamed(r, s))
		}
		a := get(term.SubstAll(x, names, l))
		b := get(term.SubstAll(renamed(r, x), names, others))
		if is, e := term.Same(a, b); !is || e != api.OK {
			t.Error(text(x), slices.Sorted(maps.Keys(by)), text(a), text(b))
		}
	}
}

// TestDataLaws is P4.19.
func TestDataLaws(t *testing.T) {
	r := sample.NewRandom(26)
	do := func(op string, args ...api.Datum) api.Datum {
		t.Helper()
		return must[api.Datum](t)(term.Delta(op, args))
	}
	for range 3000 {
		span := []int{5, 1000, 2*api.NumMost + 1}[r.Below(3)]
		a, b := num(r.Below(span)-span/2), num(r.Below(span)-span/2)
		if b.Num == 0 {
			continue
		}
		q, m := do("quo", a, b), do("rem", a, b)
		if q.Num*b.Num+m.Num != a.Num || max(m.Num, -m.Num) >= max(b.Num, -b.Num) || m.Num*a.Num < 0 || !sameData(do("+", do("*", q, b), m), a) {
			t.Error(show(a), show(b), show(q), show(m))
		}
		if less := do("<", a, b); (less.Num == 1) != (a.Num < b.Num) {
			t.Error(show(a), show(b), show(less))
		}
	}
	for range 1000 {
		a, b, l := r.Datum(4), r.Datum(3), r.List(3)
		p := do("cons", a, b)
		if !sameData(do("car", p), a) || !sameData(do("cdr", p), b) || !sameData(do("cons", do("car", p), do("cdr", p)), p) {
			t.Error(show(a), show(b), show(p))
		}
		if v := do("vector", l); v.Kind != api.Vec || !sameData(do("items", v), l) || !sameData(do("vector", do("items", v)), v) {
			t.Error(show(l), show(v))
		}
		var bytes []byte
		for range r.Below(61) {
			bytes = append(bytes, byte(' '+r.Below(95)))
		}
		s := str(string(bytes))
		if l := do("chars", s); !sameData(do("string", l), s) || !sameData(do("chars", do("string", l)), l) {
			t.Error(show(s), show(l))
		}
		if x, e := term.Delta("symbol", []api.Datum{s}); e == api.OK && !sameData(do("name", x), s) || (e == api.OK) != (datum.Check(sym(s.Text)) == api.OK) {
			t.Error(show(s), show(x), e)
		}
		if x := sym(r.Name()); !sameData(do("symbol", do("name", x)), x) {
			t.Error(show(x))
		}
	}
}
