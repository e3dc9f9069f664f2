package match_test

import (
	"slices"
	"testing"

	"caracole/api"
	"caracole/match"
)

// TestMatch is P5.2 for each sort of patterns.
func TestMatch(t *testing.T) {
	for _, x := range []struct{ pattern, datum, want string }{
		// a variable
		{"?a", "()", "?a 0 ()"}, {"?a", "etc", "?a 0 etc"}, {"?a", "?b", "?a 0 ?b"}, {"?a", "(1 . #(2))", "?a 0 (1 . #(2))"},
		// what is equal
		{"()", "()", ""}, {"()", "#()", "error 10"}, {"()", "#f", "error 10"}, {"#f", "#f", ""}, {"#f", "#t", "error 10"}, {"1", "1", ""}, {"1", "2", "error 10"}, {"a", "a", ""}, {"a", "b", "error 10"}, {"a", `"a"`, "error 10"}, {`"a"`, `"a"`, ""}, {"?", "?", ""}, {"?", "1", "error 10"}, {"1", "(1)", "error 10"},
		// vectors
		{"#()", "#()", ""}, {"#()", "()", "error 10"}, {"#()", "#(1)", "error 10"}, {"#(1 ?a)", "#(1 2)", "?a 0 2"}, {"#(1 ?a)", "#(2 2)", "error 10"}, {"#(1 ?a)", "#(1)", "error 10"}, {"#(1 ?a)", "#(1 2 3)", "error 10"}, {"#(1 ?a)", "(1 2)", "error 10"}, {"#(?a #(?b))", "#(1 #(2))", "?a 0 1; ?b 0 2"},
		{"#(?a etc)", "#()", "?a 1 ()"}, {"#(?a etc)", "#(1 2)", "?a 1 (1 2)"}, {"#(?a etc)", "()", "error 10"}, {"#(1 ?a etc 2)", "#(1 2)", "?a 1 ()"}, {"#(1 ?a etc 2)", "#(1 1 2 2)", "?a 1 (1 2)"}, {"#(1 ?a etc 2)", "#(1)", "error 10"}, {"#(1 ?a etc 2)", "#(1 2 1)", "error 10"}, {"#(1 etc)", "#(1 1)", ""}, {"#(1 etc)", "#(1 2)", "error 10"},
		// pairs without etc among their elements
		{"(?a . ?b)", "(1 . 2)", "?a 0 1; ?b 0 2"}, {"(?a . ?b)", "(1 2 3)", "?a 0 1; ?b 0 (2 3)"}, {"(?a . ?b)", "()", "error 10"}, {"(?a . ?b)", "#(1 2)", "error 10"}, {"(?a ?b)", "(1 2)", "?a 0 1; ?b 0 2"}, {"(?a ?b)", "(1 2 3)", "error 10"}, {"(?a ?b)", "(1 2 . 3)", "error 10"}, {"(?a ?b . 3)", "(1 2 . 3)", "?a 0 1; ?b 0 2"}, {"(?a ?b)", "(1)", "error 10"}, {"(?a)", "?a", "error 10"}, {"((1 . ?a) ?b)", "((1) 2)", "?a 0 (); ?b 0 2"}, {"((1 . ?a) ?b)", "((2) 2)", "error 10"}, {"(1 . #(?a etc))", "(1 . #(2 3))", "?a 1 (2 3)"}, {"(1 . #(?a etc))", "(1 2 3)", "error 10"},
		// pairs with etc among them
		{"(?a etc)", "()", "?a 1 ()"}, {"(?a etc)", "(1)", "?a 1 (1)"}, {"(?a etc)", "(1 (2) 3)", "?a 1 (1 (2) 3)"}, {"(?a etc)", "(1 . 2)", "error 10"}, {"(?a etc)", "5", "error 10"}, {"(?a etc)", "#()", "error 10"},
		{"(?a etc . 5)", "5", "?a 1 ()"}, {"(?a etc . 5)", "(1 2 . 5)", "?a 1 (1 2)"}, {"(?a etc . 5)", "(1 2)", "error 10"}, {"(?a etc . ?b)", "#(1)", "?a 1 (); ?b 0 #(1)"}, {"(?a etc . ?b)", "(1 2 . 3)", "?a 1 (1 2); ?b 0 3"}, {"(?a etc . ?b)", "(1 2)", "?a 1 (1 2); ?b 0 ()"}, {"(?a etc . #(?b))", "(1 . #(2))", "?a 1 (1); ?b 0 2"},
		{"(?a ?b etc ?c ?d)", "(1 2 3 4 5)", "?a 0 1; ?b 1 (2 3); ?c 0 4; ?d 0 5"}, {"(?a ?b etc ?c ?d)", "(1 2 3)", "?a 0 1; ?b 1 (); ?c 0 2; ?d 0 3"}, {"(?a ?b etc ?c ?d)", "(1 2)", "error 10"}, {"(?a ?b etc ?c . ?d)", "(1 2 . 3)", "?a 0 1; ?b 1 (); ?c 0 2; ?d 0 3"}, {"(0 ?b etc 1)", "(0 1 1)", "?b 1 (1)"}, {"(0 ?b etc 1)", "(0 1 2)", "error 10"}, {"(0 ?b etc 1)", "(1 1)", "error 10"}, {"(0 etc 1 0)", "(0 0 1 0)", ""}, {"(0 etc 1 0)", "(0 1 1 0)", "error 10"},
		// parts that are repeated, in one another
		{"((?a ?b) etc)", "((1 2) (3 4))", "?a 1 (1 3); ?b 1 (2 4)"}, {"((?a ?b) etc)", "((1 2) (3))", "error 10"}, {"((?a ?b) etc)", "()", "?a 1 (); ?b 1 ()"}, {"((?a ?b etc) etc)", "((1 2 3) (4))", "?a 1 (1 4); ?b 2 ((2 3) ())"}, {"((?a etc) etc)", "()", "?a 2 ()"}, {"((?a etc) etc)", "(() ())", "?a 2 (() ())"}, {"((?a etc . ?b) etc)", "((1 . 2) 3)", "?a 2 ((1) ()); ?b 1 (2 3)"}, {"(((?a etc) etc) etc)", "(((1)) () (() (2 3)))", "?a 3 (((1)) () (() (2 3)))"}, {"(((?a etc) etc) etc)", "((1))", "error 10"}, {"#((?a #(?b etc)) etc)", "#((1 #(2 3)) (4 #()))", "?a 1 (1 4); ?b 2 ((2 3) ())"},
		// variables that are no etc, and an etc in the datum
		{"(?etc ?b)", "(etc etc)", "?b 0 etc; ?etc 0 etc"}, {"(?a etc)", "(etc etc)", "?a 1 (etc etc)"},
	} {
		if got := toldBinds(match.Match(read(x.pattern), read(x.datum))); got != x.want {
			t.Error(x.pattern, x.datum, got, "want", x.want)
		}
	}
}

// TestMatchErrors: the errors of Match and Everywhere, in their order.
func TestMatchErrors(t *testing.T) {
	for _, f := range dataFaults() {
		for _, text := range []string{"?a", "1", "(?a etc)"} {
			l, e := match.Match(read(text), f.d)
			paths, g := match.Everywhere(read(text), f.d)
			if e != f.want || g != f.want || len(l)+len(paths) > 0 {
				t.Error(text, show(f.d), e, g, "want", f.want)
			}
		}
	}
	// The list of 999 elements has 1999 pieces, and that of 1000 is too large, though the vector is not.
	for _, x := range []struct {
		pattern string
		d       api.Datum
		want    api.Errno
	}{
		{"#(?a etc)", wide(999), api.OK},
		{"#(?a etc)", wide(1000), api.ErrLarge},
		{"#(?a etc 1)", wide(1000), api.ErrNone},
		{"#(?a etc)", vec(zeros(998)), api.OK},
		{"#(?a etc)", vec(zeros(500), zeros(498)), api.ErrLarge},
		{"#((?a etc . 0) etc)", wide(999), api.OK},
		{"#((?a etc . 0) etc)", wide(1000), api.ErrLarge},
		{"#((?b . ?a) etc)", wide(1000), api.ErrNone},
		{"(?a etc)", zeros(999), api.OK},
		{"(?z #(?a etc) 1)", list(num(1), wide(1000), num(2)), api.ErrNone},
		{"(?z #(?a etc) 1)", list(num(1), wide(1000), num(1)), api.ErrLarge},
	} {
		if l, e := match.Match(read(x.pattern), x.d); e != x.want || e != api.OK && len(l) > 0 {
			t.Error(x.pattern, e, "want", x.want)
		}
		paths, e := match.Everywhere(read(x.pattern), x.d)
		if has := slices.ContainsFunc(paths, func(path []int) bool { return len(path) == 0 }); e != api.OK || has == (x.want == api.ErrNone) {
			t.Error(x.pattern, e, paths)
		}
	}
}

// TestMatchMany compares Match with the chapter for many patterns and data.
func TestMatchMany(t *testing.T) {
	c := newChance(3)
	hits := 0
	for i := range 10000 {
		p := c.pattern(i%5, false)
		d := c.near(p)
		want := toldBinds(bindsOf(p, d))
		if got := toldBinds(match.Match(p, d)); got != want {
			t.Error(show(p), show(d), got, "want", want)
		}
		if want != "error 10" {
			hits++
		}
	}
	if hits < 3000 || hits > 9000 {
		t.Error(hits)
	}
}

// TestLikeMatches: data that are made to match do.
func TestLikeMatches(t *testing.T) {
	c := newChance(4)
	for i := range 2000 {
		p := c.pattern(i%6, false)
		d := c.like(p)
		if l, e := match.Match(p, d); e != api.OK || toldBinds(l, e) != toldBinds(bindsOf(p, d)) {
			t.Error(show(p), show(d), e)
		}
	}
}

// TestMatchDeep: what is as deep, or as wide, as data can be is matched, too.
func TestMatchDeep(t *testing.T) {
	deep, wanted := sym("?a"), num(7)
	for range 990 {
		deep, wanted = list(deep), list(wanted)
	}
	if got := toldBinds(match.Match(deep, wanted)); got != "?a 0 7" {
		t.Error(got)
	}
	long := pair(sym("?a"), pair(sym("etc"), sym("?b")))
	if l, e := match.Match(long, zeros(999)); e != api.OK || len(l) != 2 || !same(l[0].Value, zeros(999)) || !zero(l[1].Value) {
		t.Error(e)
	}
}
