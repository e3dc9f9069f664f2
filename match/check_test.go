package match_test

import (
	"strings"
	"testing"

	"caracole/api"
	"caracole/match"
	"caracole/sample"
)

// TestIsVar is P5.1 for variables.
func TestIsVar(t *testing.T) {
	long := "?" + strings.Repeat("a", api.SymLong-1)
	for s, want := range map[string]bool{
		"?x": true, "??": true, "?1": true, "?-1": true, "?etc": true, "?x?": true, long: true,
		"": false, "?": false, "x": false, "x?": false, "etc": false, "-?": false, "?X": false, "? x": false, "?x ": false, "?\x00": false, "?é": false, long + "a": false,
	} {
		if got := match.IsVar(s); got != want {
			t.Error(s, got)
		}
	}
}

// fault is a datum with the error that it has as a pattern.
type fault struct {
	d    api.Datum
	want api.Errno
}

// dataFaults are no valid data.
func dataFaults() []fault {
	return []fault{
		{api.Datum{Kind: 9}, api.ErrKind},
		{api.Datum{Kind: api.Pair}, api.ErrForm},
		{num(api.NumMost + 1), api.ErrValue},
		{wide(api.DatumSize), api.ErrLarge},
		{list(sym("etc"), sym("A")), api.ErrName},
		{list(sym("?a"), sym("?a"), sym("?A")), api.ErrName},
		{list(sym("?a"), sym("?a"), wide(api.DatumSize)), api.ErrLarge},
	}
}

// faults are no valid patterns. Where several things are wrong, the first one has the error.
func faults() []fault {
	l := dataFaults()
	for text, want := range map[string]api.Errno{
		// no piece that stands by itself is an etc
		"etc":                    api.ErrForm,
		"(etc)":                  api.ErrForm,
		"(etc 1)":                api.ErrForm,
		"(1 . etc)":              api.ErrForm,
		"(1 2 . etc)":            api.ErrForm,
		"(?a etc . etc)":         api.ErrForm,
		"(?a etc etc)":           api.ErrForm,
		"(1 (2 (etc)))":          api.ErrForm,
		"#(etc)":                 api.ErrForm,
		"#(?a etc etc)":          api.ErrForm,
		"#(1 #(etc 2))":          api.ErrForm,
		"(1 . #(etc))":           api.ErrForm,
		"(1 etc (etc))":          api.ErrForm,
		"((1 etc . etc) etc)":    api.ErrForm,
		"((?a ?a) (etc) #(etc))": api.ErrTwice,
		// there is at most one etc among elements
		"(a etc b etc)":            api.ErrMany,
		"(a etc b c etc)":          api.ErrMany,
		"#(a etc b etc)":           api.ErrMany,
		"(1 (a etc b etc) . 2)":    api.ErrMany,
		"(a etc b etc c etc)":      api.ErrMany,
		"((a etc) etc (b etc))":    api.OK,
		"(a etc . #(b etc))":       api.OK,
		"(?a ?a . #(b etc c etc))": api.ErrTwice,
		// ErrForm of the same list comes first, but not one of a list inside
		"(a etc b etc etc)":              api.ErrForm,
		"(a etc etc b etc)":              api.ErrForm,
		"(etc a etc)":                    api.ErrForm,
		"(a etc b etc . etc)":            api.ErrForm,
		"#(a etc b etc etc)":             api.ErrForm,
		"(?a ?a etc etc)":                api.ErrForm,
		"((etc) etc b etc)":              api.ErrMany,
		"((?a ?a) etc b etc)":            api.ErrMany,
		"(a etc b etc . #(etc))":         api.ErrMany,
		"((a etc b etc) c etc etc)":      api.ErrForm,
		"((a etc b etc) etc)":            api.ErrMany,
		"((a etc b etc) . etc)":          api.ErrMany,
		"((?a ?a) c . etc)":              api.ErrTwice,
		"(((((?a etc) etc) etc) etc) 1)": api.ErrLarge,
		// no variable is there twice
		"(?a ?a)":             api.ErrTwice,
		"(?a . ?a)":           api.ErrTwice,
		"((?a) #(1 ?a))":      api.ErrTwice,
		"(?a etc ?a)":         api.ErrTwice,
		"((?a etc) ?b #(?a))": api.ErrTwice,
		"(?a ?b (etc) ?a)":    api.ErrForm,
		"(?a ?a (etc))":       api.ErrTwice,
		// no variable is inside of more than three repeated parts
		"((((?a etc) etc) etc) etc)":          api.ErrLarge,
		"(((((?a) etc) etc) etc) etc)":        api.ErrLarge,
		"#(#(#(#(?a etc) etc) etc) etc)":      api.ErrLarge,
		"((((1 etc) etc) etc) etc)":           api.OK,
		"(((?a etc) etc) etc)":                api.OK,
		"(?a ((((?a etc) etc) etc) etc))":     api.ErrTwice,
		"(((((?b etc) etc) etc) etc) ?a ?a)":  api.ErrLarge,
		"((((?a etc) ?b etc) ?c etc) ?)":      api.OK,
		"(((((?b ?c etc) etc) etc) etc) etc)": api.ErrLarge,
		"((((etc) etc) etc) ?a ?a)":           api.ErrForm,
		"()":                                  api.OK,
		"?":                                   api.OK,
		"?a":                                  api.OK,
		"(? ? ?)":                             api.OK,
		"(?a etc . ?b)":                       api.OK,
		"#(1 ?a etc ?b)":                      api.OK,
		"(1 etc)":                             api.OK,
		"((etc2 etc) etc)":                    api.OK,
	} {
		l = append(l, fault{read(text), want})
	}
	return l
}

// TestCheck is P5.1 for patterns: all functions of a pattern return its error first, and nothing else (R1, R3).
func TestCheck(t *testing.T) {
	bad := api.Datum{Kind: 99}
	for _, f := range faults() {
		if e := match.Check(f.d); e != f.want {
			t.Error(show(f.d), e, "want", f.want)
		}
		if f.want == api.OK {
			continue
		}
		rule := []api.MatchRule{{Pattern: f.d, Template: bad}, {Pattern: bad}}
		vars, a := match.Vars(f.d)
		binds, b := match.Match(f.d, bad)
		example, c := match.Example(f.d)
		renamed, d := match.Rename(f.d, "x", "x")
		paths, e := match.Everywhere(f.d, bad)
		out, i, g := match.Rewrite(rule, bad)
		swept, steps, h := match.Sweep(rule, bad, -1)
		for k, got := range []api.Errno{a, b, c, d, e, match.CheckRules(rule), g, h} {
			if got != f.want {
				t.Error(show(f.d), k, got, "want", f.want)
			}
		}
		if len(vars)+len(binds)+len(paths)+i+steps != 0 || !zero(example, renamed, out, swept) {
			t.Error(show(f.d), vars, binds, paths, i, steps, example, renamed, out, swept)
		}
	}
}

// zero says whether data are zero values.
func zero(l ...api.Datum) bool {
	for _, d := range l {
		if d.Kind != 0 || d.Num != 0 || d.Text != "" || len(d.Parts) != 0 {
			return false
		}
	}
	return true
}

// firstFault is the error of a pattern by the chapter, piece by piece.
func firstFault(p api.Datum, alone bool, inside int, met map[string]bool) api.Errno {
	switch {
	case isEtc(p) && alone:
		return api.ErrForm
	case isVar(p) && met[p.Text]:
		return api.ErrTwice
	case isVar(p) && inside > 3:
		return api.ErrLarge
	case isVar(p):
		met[p.Text] = true
	}
	l, tail := elements(p)
	places, lone := 0, p.Kind == api.Pair && isEtc(tail)
	for i, x := range l {
		if isEtc(x) {
			places++
			lone = lone || i == 0 || isEtc(l[i-1])
		}
	}
	if places > 1 && lone {
		return api.ErrForm
	}
	if places > 1 {
		return api.ErrMany
	}
	for i, x := range l {
		deep := inside
		if i+1 < len(l) && isEtc(l[i+1]) {
			deep++
		}
		if e := firstFault(x, i == 0 || isEtc(l[i-1]), deep, met); e != api.OK {
			return e
		}
	}
	if p.Kind != api.Pair {
		return api.OK
	}
	return firstFault(tail, true, inside, met)
}

// rough is a datum that may be a pattern or a template, and often is none.
func rough(r *sample.Random, depth int) api.Datum {
	n := r.Below(12)
	switch {
	case n < 3:
		return sym([]string{"?a", "?b", "?c", "?d"}[r.Below(4)])
	case n < 5:
		return sym("etc")
	case depth == 0 || n < 6:
		return num(r.Below(2))
	case n == 6:
		d := rough(r, depth-1)
		for range r.Below(5) {
			d = list(d, sym("etc"))
		}
		return d
	}
	var l []api.Datum
	for range r.Below(5) {
		l = append(l, rough(r, depth-1))
		if r.Below(3) == 0 {
			l = append(l, sym("etc"))
		}
	}
	switch n {
	case 7:
		return vec(l...)
	case 8:
		return sample.List(rough(r, 0), l...)
	}
	return list(l...)
}

// TestCheckMany compares Check with the chapter for many data.
func TestCheckMany(t *testing.T) {
	r := sample.NewRandom(1)
	met := map[api.Errno]int{}
	for i := range 20000 {
		p := rough(r, 1+i%7)
		want := firstFault(p, true, 0, map[string]bool{})
		if got := match.Check(p); got != want {
			t.Error(show(p), got, "want", want)
		}
		met[want]++
	}
	for _, e := range []api.Errno{api.OK, api.ErrForm, api.ErrMany, api.ErrTwice, api.ErrLarge} {
		if met[e] < 20 {
			t.Error(e, met[e])
		}
	}
}

// TestVars is P5.1 for the variables of a pattern.
func TestVars(t *testing.T) {
	for text, want := range map[string]string{
		"1": "", "?a": "?a 0", "(?b ?a . ?c)": "?a 0; ?b 0; ?c 0", "(?a etc)": "?a 1", "(?b . #((?a (?c etc) etc)))": "?a 0; ?b 0; ?c 2", "#(((?a etc) etc) etc)": "?a 3", "(?a10 ?a9 ?a-)": "?a- 0; ?a10 0; ?a9 0", "(?x etc ?x? ?)": "?x 1; ?x? 0",
	} {
		if got := toldVars(match.Vars(read(text))); got != want {
			t.Error(text, got, "want", want)
		}
	}
	c := newChance(2)
	for i := range 1000 {
		p := c.pattern(i%5, false)
		deep := depths(p, 0, map[string]int{})
		l, e := match.Vars(p)
		last := ""
		for _, v := range l {
			if n, ok := deep[v.Name]; !ok || n != v.Depth || v.Name <= last {
				t.Error(show(p), l)
			}
			last = v.Name
		}
		if len(l) != len(deep) || e != api.OK {
			t.Error(show(p), l, e)
		}
	}
}

// TestCheckBinds is P5.1 for binds; Fill has their errors behind those of the template, and ahead of its own.
func TestCheckBinds(t *testing.T) {
	bad := api.Datum{Kind: 99}
	b := func(name string, depth int, value api.Datum) api.MatchBind {
		return api.MatchBind{Name: name, Depth: depth, Value: value}
	}
	for i, x := range []struct {
		l    []api.MatchBind
		want api.Errno
	}{
		{nil, api.OK},
		{binds("?a 0 1; ?b 1 (1 2); ?c 2 (() (1)); ?d 3 (() (() (1)))"), api.OK},
		{binds("?a 0 (1 . 2); ?b 1 ((1 . 2)); ?c 1 (); ?d 3 ()"), api.OK},
		{binds("?a10 0 1; ?a9 0 1"), api.OK},
		{binds("x 9 1; x 9 1"), api.ErrName},
		{binds("? 9 1"), api.ErrName},
		{[]api.MatchBind{b("", -1, bad)}, api.ErrName},
		{[]api.MatchBind{b("?A", -1, bad)}, api.ErrName},
		{binds("?b 0 1; x 0 1"), api.ErrName},
		{binds("?b 0 1; ?a 9 1"), api.ErrOrder},
		{binds("?b 0 1; ?b 9 1"), api.ErrOrder},
		{binds("?b 0 1; ?c 0 1; ?a 0 1; x 0 1"), api.ErrOrder},
		{[]api.MatchBind{b("?a", -1, bad)}, api.ErrValue},
		{[]api.MatchBind{b("?a", 4, bad)}, api.ErrValue},
		{[]api.MatchBind{b("?a", 1, bad)}, api.ErrKind},
		{[]api.MatchBind{b("?a", 1, num(1<<40))}, api.ErrValue},
		{[]api.MatchBind{b("?a", 0, wide(2000))}, api.ErrLarge},
		{binds("?a 1 1"), api.ErrKind},
		{binds("?a 1 (1 . 2)"), api.ErrKind},
		{binds("?a 1 #(1)"), api.ErrKind},
		{binds("?a 2 (1)"), api.ErrKind},
		{binds("?a 2 (() (1) (2 . 3))"), api.ErrKind},
		{binds("?a 3 ((()) (1))"), api.ErrKind},
		{binds("?a 2 ((()) (1)); ?b 3 ((()) ((1)) ((1 . 2)))"), api.ErrKind},
		{append(binds("?b 1 1"), b("?a", 9, bad)), api.ErrKind},
		{append(binds("?b 1 (1)"), b("?c", 0, sym("A")), b("?a", 0, num(1))), api.ErrName},
	} {
		if e := match.CheckBinds(x.l); e != x.want {
			t.Error(i, e, "want", x.want)
		}
		want := x.want
		if want == api.OK {
			want = api.ErrName
		}
		if d, e := match.Fill(read("(1 etc ?q)"), x.l); e != want || !zero(d) {
			t.Error(i, d, e, "want", want)
		}
		if d, e := match.Fill(read("(1 etc etc)"), x.l); e != api.ErrForm || !zero(d) {
			t.Error(i, d, e)
		}
	}
}

// TestTemplates: what is no valid template has its error ahead of all else in Fill, and in a rule behind that of the pattern.
func TestTemplates(t *testing.T) {
	l := dataFaults()
	for _, text := range []string{"etc", "(etc)", "(etc 1)", "(1 . etc)", "(?a etc etc)", "(?a etc 1 etc etc)", "#(etc)", "#(?a etc etc)", "(1 (2 #(1 (etc))))", "(?a etc . etc)", "(?a ?q etc . etc)", "(1 . #(etc))"} {
		l = append(l, fault{read(text), api.ErrForm})
	}
	for _, f := range l {
		if d, e := match.Fill(f.d, binds("x 9 1")); e != f.want || !zero(d) {
			t.Error(show(f.d), d, e, "want", f.want)
		}
		for _, more := range []api.MatchRule{{}, {Pattern: sym("etc")}} {
			if e := match.CheckRules([]api.MatchRule{{}, {Pattern: sym("?a"), Template: f.d}, more}); e != f.want {
				t.Error(show(f.d), e, "want", f.want)
			}
		}
		if e := match.CheckRules([]api.MatchRule{{Pattern: sym("etc"), Template: f.d}}); e != api.ErrForm {
			t.Error(show(f.d), e)
		}
	}
	for _, text := range []string{"(?a etc ?a etc)", "#(?a etc 1 ?a etc)", "((?a etc) etc . ?b)", "((?a ?a) etc)"} {
		if d, e := match.Fill(read(text), binds("?a 2 (); ?b 0 1")); e == api.ErrForm || e == api.ErrMany {
			t.Error(text, show(d), e)
		}
	}
}

// TestCheckRules is P5.1 for rules.
func TestCheckRules(t *testing.T) {
	for text, want := range map[string]api.Errno{
		"":                                 api.OK,
		"1 to 2":                           api.OK,
		"?a to (?a ?a)":                    api.OK,
		"(?a etc) to (?a etc ?a etc)":      api.OK,
		"(?a ?b etc) to ((?a ?b) etc)":     api.OK,
		"((?a etc) etc) to ((?a etc) etc)": api.OK,
		"((?a etc) ?b etc) to (((?a ?b) etc) etc)":      api.ErrNone,
		"((?a etc) etc) to (?a etc)":                    api.ErrKind,
		"((?a ?b etc) etc) to ((?a ?b etc) etc)":        api.OK,
		"((?a ?b etc) etc) to ((?a ?b) etc)":            api.ErrKind,
		"((?a ?b etc) etc) to (((?b ?a) etc) etc)":      api.OK,
		"((?a ?b etc) etc) to ((?b etc) (?a etc))":      api.ErrKind,
		"(((?a etc) etc) etc) to #((#(?a etc) etc))":    api.ErrKind,
		"(((?a etc) etc) etc) to (((?a etc) etc) 1)":    api.ErrKind,
		"(((?a etc) etc) etc) to #(((?a etc) etc) etc)": api.OK,
		// each variable of the template is one of the pattern, ahead of how deep it is
		"?a to ?b":              api.ErrName,
		"(?a etc) to (?a ?b)":   api.ErrName,
		"?a to (1 etc ?b)":      api.ErrName,
		"(?a etc) to (?a . ?b)": api.ErrName,
		// then piece by piece
		"(?a etc) to ?a":                       api.ErrKind,
		"(?a etc) to (1 etc ?a)":               api.ErrNone,
		"(?a etc) to (?a 1 etc)":               api.ErrKind,
		"(?a etc) to (1 . ?a)":                 api.ErrKind,
		"?a to (?a etc)":                       api.ErrNone,
		"?a to #(1 etc)":                       api.ErrNone,
		"(?a etc) to ((?a etc) etc)":           api.ErrNone,
		"(?a ?b etc) to ((?b (?a etc)) etc)":   api.ErrNone,
		"(?a ?b etc) to (((?a etc) ?b) etc)":   api.ErrNone,
		"(?a ?b etc) to ((?b etc) ?b (1 etc))": api.ErrKind,
		// rules one by one
		"1 to (1 etc); etc to 1":         api.ErrNone,
		"1 to 1; (?a ?a) to etc; 1 to 2": api.ErrTwice,
	} {
		var l []api.MatchRule
		for one := range strings.SplitSeq(text, "; ") {
			if p, q, ok := strings.Cut(one, " to "); ok {
				l = append(l, api.MatchRule{Pattern: read(p), Template: read(q)})
			}
		}
		bad := api.Datum{Kind: 99}
		a, i, e := match.Rewrite(l, bad)
		b, n, f := match.Sweep(l, bad, -1)
		later := want
		if want == api.OK {
			later = api.ErrKind
		}
		if got := match.CheckRules(l); got != want || e != later || f != later {
			t.Error(text, got, e, f, "want", want)
		}
		if !zero(a, b) || i != 0 || n != 0 {
			t.Error(text, a, i, b, n)
		}
	}
	many := make([]api.MatchRule, api.MatchRules)
	if e := match.CheckRules(many); e != api.OK {
		t.Error(e)
	}
	many = append(many, api.MatchRule{})
	many[0].Pattern = sym("etc")
	if e := match.CheckRules(many); e != api.ErrMany {
		t.Error(e)
	}
}
