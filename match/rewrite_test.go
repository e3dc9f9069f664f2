package match_test

import (
	"slices"
	"testing"

	"caracole/api"
	"caracole/match"
	"caracole/sample"
)

// TestRewrite is P5.5, with the errors of Rewrite in their order.
func TestRewrite(t *testing.T) {
	for _, x := range []struct{ rules, datum, want string }{
		{"", "1", "error 10"}, {"1 to 2", "1", "2, 0"}, {"1 to 2", "3", "error 10"}, {"1 to 2", "(1)", "error 10"}, {"1 to 2; 1 to 3", "1", "2, 0"}, {"2 to 2; 1 to 3; ?a to 4", "1", "3, 1"}, {"2 to 2; 1 to 3; ?a to (?a 4)", "5", "(5 4), 2"}, {"?a to (?a ?a)", "(1 . 2)", "((1 . 2) (1 . 2)), 0"},
		{"(let ((?x ?e) etc) ?b) to ((fn (?x etc) ?b) ?e etc)", "(let ((a 1) (b 2)) (a b))", "((fn (a b) (a b)) 1 2), 0"}, {"(?a ?b etc) to (?b etc ?a)", "(1 2 3)", "(2 3 1), 0"}, {"((?a etc) etc) to (?b); 1 to 1", "1", "error 2"}, {"#(?a etc) to (?a etc); (?a etc) to #(?a etc)", "(1 2)", "#(1 2), 1"},
		// the first rule that matches has the word, though it cannot be filled
		{"((?a etc) (?b etc)) to ((?a ?b) etc); ?a to 1", "((1) (2 3))", "error 11"}, {"((?a etc) (?b etc)) to ((?a ?b) etc); ?a to 1", "((1 2) (2 3))", "((1 2) (2 3)), 0"}, {"((?a etc) (?b etc)) to ((?a ?b) etc); ?a to 1", "(1 (2 3))", "1, 1"},
	} {
		if got := toldSteps(match.Rewrite(rules(x.rules), read(x.datum))); got != x.want {
			t.Error(x.rules, x.datum, got, "want", x.want)
		}
	}
	for _, x := range []struct {
		rules string
		d     api.Datum
		want  api.Errno
	}{
		{"#(?a etc) to 1; ?a to 2", wide(999), api.OK},
		{"#(?a etc) to 1; ?a to 2", wide(1000), api.ErrLarge}, // what it stands for, though this is not needed
		{"(?a . ?b) to (?a . ?b)", zeros(999), api.OK},
		{"(?a . ?b) to #(?b ?b)", zeros(999), api.ErrLarge},
		{"(?a etc) to (?a etc 1)", zeros(999), api.ErrLarge},
		{"(?a etc) to #(?a etc 1)", zeros(999), api.OK},
	} {
		out, rule, e := match.Rewrite(rules(x.rules), x.d)
		if e != x.want || e != api.OK && (rule != 0 || !zero(out)) {
			t.Error(x.rules, e, "want", x.want)
		}
	}
	for _, f := range dataFaults() {
		for _, text := range []string{"?a to 1", "1 to 1", "", "?a to ?a"} {
			out, rule, e := match.Rewrite(rules(text), f.d)
			swept, steps, g := match.Sweep(rules(text), f.d, -1)
			if e != f.want || g != f.want || !zero(out, swept) || rule != 0 || steps != 0 {
				t.Error(text, show(f.d), e, g, "want", f.want)
			}
		}
	}
}

// TestSweep is P5.6, with the errors of Sweep in their order.
func TestSweep(t *testing.T) {
	plus := "(plus 0 ?n) to ?n; (plus (s ?m) ?n) to (s (plus ?m ?n)); (times 0 ?n) to 0; (times (s ?m) ?n) to (plus ?n (times ?m ?n))"
	for _, x := range []struct {
		rules, datum string
		most         int
		want         string
	}{
		{"", "(1 2)", 0, "(1 2), 0"}, {"1 to 2", "3", 0, "3, 0"}, {"1 to 2", "1", 1, "2, 1"}, {"1 to 2", "1", 0, "error 12"}, {"1 to 2", "(1 #(1) . 1)", 3, "(2 #(2) . 2), 3"}, {"1 to 2", "(1 #(1) . 1)", 2, "error 12"},
		{"1 to 2; 2 to 3", "(1 2)", 9, "(3 3), 3"}, {"?a to ?a", "1", 9, "error 12"}, {"?a to ?a", "1", 1000, "error 12"}, {"(?a 0) to ?a; (?a ?b) to (?b ?a)", "(0 1)", 9, "1, 2"},
		// the whole comes before its parts, and a list before its rest
		{"(f ?x) to ?x; (g) to 1; 1 to 2", "(f (g))", 9, "2, 3"}, {"(f ?x) to 0; (g) to (f)", "(f (g))", 9, "0, 1"},
		{"(a ?b etc) to (?b etc); (b c) to (d)", "(a b c)", 9, "(d), 2"}, {"(a ?b ?c) to (?c ?b); (b c) to d", "(a b c)", 9, "(c b), 1"}, {"(x x) to y", "(x x x)", 9, "(x . y), 1"}, {"(x ?y . ?r) to (?y . ?r)", "(x x x)", 9, "(x), 2"},
		{plus, "(plus (s (s 0)) (s 0))", 9, "(s (s (s 0))), 3"}, {plus, "(times (s (s 0)) (s (s 0)))", 99, "(s (s (s (s 0)))), 9"},
		{"(sort ?a etc) to (?a etc); (2 1 . ?r) to (1 2 . ?r); (3 1 . ?r) to (1 3 . ?r); (3 2 . ?r) to (2 3 . ?r)", "(sort 3 2 1)", 9, "(1 2 3), 4"},
		// limits: that there are no more steps than asked for comes ahead of what the next one would be
		{"1 to 1", "1", -1, "error 13"}, {"1 to 1", "1", 1001, "error 13"}, {"1 to 2", "1", 1000, "2, 1"}, {"((?a etc) (?b etc)) to ((?a ?b) etc)", "((1) (2 3))", 0, "error 12"}, {"((?a etc) (?b etc)) to ((?a ?b) etc)", "((1) (2 3))", 1, "error 11"}, {"0 to 1; ((?a etc) (?b etc)) to ((?a ?b) etc)", "(0 (1) (2 3))", 1, "error 12"}, {"0 to 1; ((?a etc) (?b etc)) to ((?a ?b) etc)", "(0 (1) (2 3))", 2, "error 11"},
	} {
		if got := toldSteps(match.Sweep(rules(x.rules), read(x.datum), x.most)); got != x.want {
			t.Error(x.rules, x.datum, x.most, got, "want", x.want)
		}
	}
	for _, x := range []struct {
		rules string
		d     api.Datum
		most  int
		want  api.Errno
	}{
		{"x to (1)", vec(append(wide(1996).Parts, sym("x"))...), 1, api.OK},
		{"x to (1 1)", vec(append(wide(1996).Parts, sym("x"))...), 1, api.ErrLarge},
		{"x to (1 1)", vec(append(wide(1996).Parts, sym("x"))...), 0, api.ErrLimit},
		{"x to (x)", sym("x"), 999, api.ErrLimit},
		{"x to (x)", sym("x"), 1000, api.ErrLarge}, // with 1000 pairs around
		{"(1 ?a etc) to (?a etc); 0 to 1", zeros(500), 1000, api.OK},
		{"(1 ?a etc) to (?a etc); 0 to 1", zeros(501), 1000, api.ErrLimit},
		{"#(?a etc) to 1", wide(1000), 1, api.ErrLarge},
		{"#(?a etc) to 1", wide(1000), 0, api.ErrLimit},
	} {
		d, steps, e := match.Sweep(rules(x.rules), x.d, x.most)
		if e != x.want || e != api.OK && (steps != 0 || !zero(d)) {
			t.Error(x.rules, x.most, e, "want", x.want)
		}
	}
}

// someRules are a few valid rules by chance.
func someRules(c *chance) []api.MatchRule {
	for {
		var l []api.MatchRule
		for range 1 + c.Below(4) {
			p := c.pattern(1+c.Below(3), false)
			for isVar(p) && c.Below(5) > 0 {
				p = c.pattern(1+c.Below(3), false)
			}
			l = append(l, api.MatchRule{Pattern: p, Template: c.templateFor(p)})
		}
		if match.CheckRules(l) == api.OK {
			return l
		}
	}
}

// templateFor is a template with variables of a pattern. It is often smaller than the pattern, so that sweeps end.
func (c *chance) templateFor(p api.Datum) api.Datum {
	paths := allPaths(p)
	t := follow(p, paths[len(paths)-1-c.Below((len(paths)+1)/2)])
	if c.Below(8) == 0 {
		other := follow(p, paths[c.Below(len(paths))])
		t = list(t, other)
	}
	if isEtc(t) || c.Below(4) == 0 {
		return c.Leaf()
	}
	return t
}

// rewritten is what Rewrite should return.
func rewritten(rules []api.MatchRule, d api.Datum) (api.Datum, int, api.Errno) {
	for i, r := range rules {
		l, e := bindsOf(r.Pattern, d)
		if e == api.ErrNone {
			continue
		}
		out, e := fillBy(r.Template, l)
		if e != api.OK {
			return api.Datum{}, 0, e
		}
		return out, i, api.OK
	}
	return api.Datum{}, 0, api.ErrNone
}

// TestRewriteMany is P5.5 and P5.13: the first rule that matches rewrites, and rules behind it do not matter.
func TestRewriteMany(t *testing.T) {
	c := newChance(12)
	met := map[int]int{}
	for range 3000 {
		l := someRules(c)
		d := c.near(l[c.Below(len(l))].Pattern)
		want := toldSteps(rewritten(l, d))
		if got := toldSteps(match.Rewrite(l, d)); got != want {
			t.Error(l, show(d), got, "want", want)
		}
		out, i, e := match.Rewrite(l, d)
		if e != api.OK {
			continue
		}
		met[i]++
		other := append(slices.Clone(l[:i+1]), someRules(c)...)
		if got := toldSteps(match.Rewrite(other, d)); got != toldSteps(out, i, e) || got != toldSteps(match.Rewrite(l[:i+1], d)) {
			t.Error(l, show(d), got, "want", want)
		}
		for _, r := range l[:i] {
			if _, e := match.Match(r.Pattern, d); e != api.ErrNone {
				t.Error(l, show(d), i, e)
			}
		}
	}
	if met[0] < 500 || met[1] < 100 || met[2] < 50 {
		t.Error(met)
	}
}

// firstPlace is the first path at which a rule matches.
func firstPlace(rules []api.MatchRule, d api.Datum) (path []int, ok bool) {
	for _, path := range allPaths(d) {
		for _, r := range rules {
			if standsFor(r.Pattern, follow(d, path)) != nil {
				return path, true
			}
		}
	}
	return nil, false
}

// swept is what Sweep should return.
func swept(rules []api.MatchRule, d api.Datum, most int) (api.Datum, int, api.Errno) {
	for steps := 0; ; steps++ {
		path, ok := firstPlace(rules, d)
		if !ok {
			return d, steps, api.OK
		}
		if steps == most {
			return api.Datum{}, 0, api.ErrLimit
		}
		x, _, e := rewritten(rules, follow(d, path))
		if e != api.OK {
			return api.Datum{}, 0, e
		}
		if d = put(d, path, x); pieces(d) > api.DatumSize {
			return api.Datum{}, 0, api.ErrLarge
		}
	}
}

// TestSweepMany is P5.6, P5.14 and P5.15: Sweep does as the chapter says; what it returns matches no rule and is swept in no step; and it takes one step after the other.
func TestSweepMany(t *testing.T) {
	c := newChance(13)
	met := map[string]int{}
	for range 2000 {
		l := someRules(c)
		d := c.near(l[c.Below(len(l))].Pattern)
		if c.Below(2) == 0 {
			d = list(d, c.near(l[0].Pattern), c.Datum(2))
		}
		most := c.Below(12)
		want := toldSteps(swept(l, d, most))
		if got := toldSteps(match.Sweep(l, d, most)); got != want {
			t.Error(l, show(d), most, got, "want", want)
		}
		out, steps, e := match.Sweep(l, d, most)
		if path, ok := firstPlace(l, d); ok && most > 0 {
			x, _, f := match.Rewrite(l, follow(d, path))
			if f == api.OK {
				rest, more, g := match.Sweep(l, put(d, path, x), most-1)
				if g != e || g == api.OK && (more != steps-1 || !same(rest, out)) {
					t.Error(l, show(d), most, e, steps, g, more, show(out), show(rest))
				}
			} else if e != f {
				t.Error(l, show(d), most, e, f)
			}
		}
		if e != api.OK {
			met[toldOr("", e)]++
			continue
		}
		met["steps"] += steps
		for _, r := range l {
			if paths, e := match.Everywhere(r.Pattern, out); e != api.OK || len(paths) > 0 {
				t.Error(l, show(d), show(out), paths, e)
			}
		}
		if got := toldSteps(match.Sweep(l, out, 0)); got != show(out)+", 0" {
			t.Error(l, show(d), show(out), got)
		}
		for n := range steps {
			if _, _, e := match.Sweep(l, d, n); e != api.ErrLimit {
				t.Error(l, show(d), n, steps, e)
			}
		}
	}
	if met["steps"] < 500 || met["error 12"] < 100 {
		t.Error(met)
	}
}

// TestSweepSlow: a sweep of as many steps, over data as large as there can be, comes to its end.
func TestSweepSlow(t *testing.T) {
	var l []api.MatchRule
	for i := range api.MatchRules - 1 {
		l = append(l, api.MatchRule{Pattern: sample.Read("(?a etc no ?b)"), Template: num(i)})
	}
	l = append(l, api.MatchRule{Pattern: num(0), Template: num(1)})
	d, steps, e := match.Sweep(l, wide(1000), 1000)
	if e != api.OK || steps != 1000 || !same(d, vec(slices.Repeat([]api.Datum{num(1)}, 1000)...)) {
		t.Error(e, steps)
	}
}
