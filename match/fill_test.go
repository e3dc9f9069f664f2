package match_test

import (
	"maps"
	"slices"
	"strconv"
	"strings"
	"testing"

	"caracole/api"
	"caracole/match"
	"caracole/sample"
)

// TestFill is P5.3, and the errors of Fill in their order.
func TestFill(t *testing.T) {
	some := "?a 0 1; ?b 0 (2 3); ?c 0 #(4); ?l 1 (5 6); ?m 1 (7 8); ?n 1 (9); ?o 1 (); ?x 2 ((1 2) (3)); ?y 2 (() (4)); ?z 3 (((1) (2 3)) ())"
	for _, x := range []struct{ template, want string }{
		{"5", "5"}, {"()", "()"}, {"#()", "#()"}, {"(a . b)", "(a . b)"}, {"?", "?"},
		{"?a", "1"}, {"?b", "(2 3)"}, {"(?a ?a)", "(1 1)"}, {"(?a . ?b)", "(1 2 3)"}, {"(?b . ?a)", "((2 3) . 1)"}, {"(?a . ?c)", "(1 . #(4))"}, {"#(?a #(?b))", "#(1 #((2 3)))"},
		// repeated parts
		{"(?l etc)", "(5 6)"}, {"(0 ?l etc 0)", "(0 5 6 0)"}, {"#(?l etc)", "#(5 6)"}, {"#(0 ?l etc ?o etc 0)", "#(0 5 6 0)"}, {"(?l etc . ?a)", "(5 6 . 1)"}, {"(?l etc . ?b)", "(5 6 2 3)"}, {"(?o etc)", "()"}, {"(?o etc . ?a)", "1"}, {"(?o etc . ?b)", "(2 3)"}, {"(?o etc . 5)", "5"}, {"(1 ?o etc)", "(1)"},
		{"(?l etc ?m etc ?l etc)", "(5 6 7 8 5 6)"}, {"((?l ?m) etc)", "((5 7) (6 8))"}, {"((?l . ?m) etc)", "((5 . 7) (6 . 8))"}, {"((?l ?a ?b) etc)", "((5 1 (2 3)) (6 1 (2 3)))"}, {"(#(?l ?l) etc)", "(#(5 5) #(6 6))"},
		{"((?x etc) etc)", "((1 2) (3))"}, {"((0 ?x etc) etc)", "((0 1 2) (0 3))"}, {"((?l ?x etc) etc)", "((5 1 2) (6 3))"}, {"((?l ?x etc ?y etc) etc)", "((5 1 2) (6 3 4))"}, {"(((?l ?x) etc) etc)", "(((5 1) (5 2)) ((6 3)))"}, {"(((?a ?x) etc) etc)", "(((1 1) (1 2)) ((1 3)))"}, {"((((?z) etc) etc) etc)", "((((1)) ((2) (3))) ())"}, {"#(#(#(?z etc 0) etc 0) etc 0)", "#(#(#(1 0) #(2 3 0) 0) #(0) 0)"}, {"((?l (?z etc) etc) etc)", "((5 (1) (2 3)) (6))"},
		// no variable is unknown, ahead of all else
		{"?q", "error 2"}, {"(?l 1 etc ?q)", "error 2"}, {"((?n ?l) etc . ?q)", "error 2"}, {"(?o (?q) etc)", "error 2"}, {"?A", "error 2"},
		// then piece by piece
		{"?l", "error 4"}, {"?o", "error 4"}, {"(?l ?l etc)", "error 4"}, {"(?l etc ?l)", "error 4"}, {"(?l etc . ?l)", "error 4"}, {"(?x etc)", "error 4"}, {"((?z etc) etc)", "error 4"}, {"#(?x etc)", "error 4"},
		{"(1 etc)", "error 10"}, {"(?a etc)", "error 10"}, {"((?a ?b) etc)", "error 10"}, {"#(1 etc)", "error 10"}, {"((?l etc) etc)", "error 10"}, {"((?l 1 etc) etc)", "error 10"}, {"(((?x etc) etc) etc)", "error 10"}, {"((?l (?l etc)) etc)", "error 10"},
		{"((?l ?n) etc)", "error 11"}, {"((?l ?o) etc)", "error 11"}, {"((?n ?x etc) etc)", "error 11"}, {"(((?x ?y) etc) etc)", "error 11"}, {"((?n ?o) etc)", "error 11"},
		{"(?l 1 etc)", "error 4"}, {"(1 etc ?l)", "error 10"}, {"((?l ?n) etc ?l)", "error 11"}, {"(?l (?l ?n) etc)", "error 4"}, {"((?l ?n) etc 1 etc)", "error 11"}, {"(1 etc (?l ?n) etc)", "error 10"}, {"((?l etc 1 etc) . ?l)", "error 10"}, {"((?l . ?x) etc)", "error 4"}, {"((?x (1 etc)) etc)", "error 4"}, {"(((1 etc) ?x) etc)", "error 10"},
		// nothing is wrong in what is there no time
		{"((?o 1 etc) etc)", "()"}, {"((?o etc ?a etc) etc)", "()"}, {"((?o (?o etc)) etc)", "()"}, {"(((?z 1 etc) etc) etc)", "error 4"}, {"((((?z 1 etc) etc) etc) etc)", "error 10"},
	} {
		if got := told(match.Fill(read(x.template), binds(some))); got != x.want {
			t.Error(x.template, got, "want", x.want)
		}
	}
	for _, x := range []struct{ template, binds, want string }{
		{"(((?x (1 etc)) etc) etc)", "?x 2 (() ())", "(() ())"},
		{"((?x etc ?y) etc)", "?x 2 (); ?y 2 ()", "()"},
		{"((?x etc ?y) etc)", "?x 2 (()); ?y 2 (())", "error 4"},
		{"((?x ?y) etc)", "?x 1 (); ?y 2 ()", "()"},
		{"((?x ?y etc) etc)", "?x 1 (1 2); ?y 2 ((3) ())", "((1 3) (2))"},
		{"(((?x ?y) etc) etc)", "?x 1 (1 2); ?y 3 (((3)) ())", "error 4"},
		{"#(?x etc etc2)", "?x 1 (?x etc)", "#(?x etc etc2)"},
		{"?x", "?x 0 (?x etc etc)", "(?x etc etc)"},
	} {
		if got := told(match.Fill(read(x.template), binds(x.binds))); got != x.want {
			t.Error(x.template, x.binds, got, "want", x.want)
		}
	}
}

// TestFillLarge: a datum has at most 2000 pieces, which is looked at last.
func TestFillLarge(t *testing.T) {
	a := api.MatchBind{Name: "?a", Value: zeros(999)}
	b := api.MatchBind{Name: "?b", Depth: 1, Value: zeros(500)}
	l := []api.MatchBind{a, b}
	for text, want := range map[string]api.Errno{
		"?a": api.OK, "#(?a)": api.OK, "#(?a 1)": api.ErrLarge, "(1 . ?a)": api.ErrLarge, "(?a)": api.ErrLarge, "(?b etc)": api.OK, "#(?b etc ?b etc)": api.OK, "(?b etc ?b etc)": api.ErrLarge, "(#(?b) etc)": api.OK, "(#(?b) etc . ?b)": api.ErrKind, "((?b) etc)": api.ErrLarge, "(((?b)) etc)": api.ErrLarge,
		"#(#(?b 1) etc)": api.OK, "#(#(?b 1 2 3) etc)": api.ErrLarge, "#(#(?b 1 2) etc)": api.ErrLarge, "#((?a ?a ?a ?b) etc)": api.ErrLarge,
		"(?a ?a 1 etc)": api.ErrNone, "(?a ?a ?b)": api.ErrKind, "(?a ?a ?q)": api.ErrName, "((?a ?b (1 etc)) etc)": api.ErrNone,
	} {
		if d, e := match.Fill(read(text), l); e != want || (e != api.OK) && !zero(d) || e == api.OK && pieces(d) > 2000 {
			t.Error(text, e, "want", want)
		}
	}
	// A template as large as can be, as often as can be.
	template := list(vec(append(slices.Repeat([]api.Datum{sym("?a")}, 1900), sym("?b"))...), sym("etc"))
	if d, e := match.Fill(template, l); e != api.ErrLarge || !zero(d) {
		t.Error(e)
	}
	if _, e := match.Fill(list(template, list(num(1), sym("etc"))), l); e != api.ErrNone {
		t.Error(e)
	}
}

// pieces is how many pieces a datum has.
func pieces(d api.Datum) int {
	n := 1
	for _, p := range d.Parts {
		n += pieces(p)
	}
	return n
}

// filled fills a template by the chapter. Each repetition has binds of its own. An error is a panic.
func filled(t api.Datum, l map[string]api.MatchBind) api.Datum {
	switch {
	case isVar(t):
		if l[t.Text].Depth > 0 {
			panic(api.ErrKind)
		}
		return l[t.Text].Value
	case t.Kind != api.Pair && t.Kind != api.Vec:
		return t
	}
	all, behind := elements(t)
	var out []api.Datum
	for i, x := range all {
		switch {
		case isEtc(x):
		case i+1 < len(all) && isEtc(all[i+1]):
			for _, one := range repetitions(x, l) {
				out = append(out, filled(x, one))
			}
		default:
			out = append(out, filled(x, l))
		}
	}
	if t.Kind == api.Vec {
		return vec(out...)
	}
	return sample.List(filled(behind, l), out...)
}

// repetitions are the binds of each time that a part is gone through.
func repetitions(part api.Datum, l map[string]api.MatchBind) []map[string]api.MatchBind {
	var out []map[string]api.MatchBind
	times := -1
	for name := range depths(part, 0, map[string]int{}) {
		b := l[name]
		if b.Depth == 0 {
			continue
		}
		values, _ := elements(b.Value)
		if times < 0 {
			times = len(values)
			for range times {
				out = append(out, maps.Clone(l))
			}
		}
		if times != len(values) {
			panic(api.ErrClash)
		}
		for i, d := range values {
			out[i][name] = api.MatchBind{Name: name, Depth: b.Depth - 1, Value: d}
		}
	}
	if times < 0 {
		panic(api.ErrNone)
	}
	return out
}

// fillBy is what Fill should return.
func fillBy(t api.Datum, l []api.MatchBind) (out api.Datum, e api.Errno) {
	known := map[string]api.MatchBind{}
	for _, b := range l {
		known[b.Name] = b
	}
	for name := range depths(t, 0, map[string]int{}) {
		if _, ok := known[name]; !ok {
			return api.Datum{}, api.ErrName
		}
	}
	defer func() {
		if r := recover(); r != nil {
			out, e = api.Datum{}, r.(api.Errno)
		}
	}()
	out = filled(t, known)
	if pieces(out) > api.DatumSize {
		return api.Datum{}, api.ErrLarge
	}
	return out, api.OK
}

// someBinds are binds of ?a to ?d with values of all depths.
func someBinds(r *sample.Random) []api.MatchBind {
	var l []api.MatchBind
	for _, name := range []string{"?a", "?b", "?c", "?d"} {
		depth := r.Below(4)
		if r.Below(12) > 0 {
			l = append(l, api.MatchBind{Name: name, Depth: depth, Value: levels(r, depth)})
		}
	}
	return l
}

func levels(r *sample.Random, depth int) api.Datum {
	if depth == 0 {
		return r.Datum(1)
	}
	var l []api.Datum
	for range 2 - r.Below(4)/3 {
		l = append(l, levels(r, depth-1))
	}
	return list(l...)
}

// someTemplate is a datum that may be a template, and is one in most cases.
func someTemplate(r *sample.Random, depth int) api.Datum {
	if r.Below(4) == 0 {
		return rough(r, depth)
	}
	n := r.Below(9)
	if n < 5 {
		return sym([]string{"?a", "?b", "?c", "?d", "x"}[n])
	}
	var l []api.Datum
	for range r.Below(4) {
		l = append(l, someTemplate(r, max(depth-1, 0)))
		if r.Below(2) == 0 && depth > 0 {
			l = append(l, sym("etc"))
		}
	}
	if n == 5 {
		return vec(l...)
	}
	return sample.List([]api.Datum{{}, {}, num(1), sym("?a")}[n-5], l...)
}

// TestFillMany compares Fill with the chapter for many templates and binds.
func TestFillMany(t *testing.T) {
	r := sample.NewRandom(5)
	met := map[string]int{}
	for i := 0; i < 30000; i++ {
		template := someTemplate(r, i%5)
		l := someBinds(r)
		want := told(fillBy(template, l))
		if firstForm(template) {
			want = "error 1"
		}
		if got := told(match.Fill(template, l)); got != want {
			t.Error(show(template), toldBinds(l, api.OK), got, "want", want)
		}
		if !strings.HasPrefix(want, "error") {
			want = "repeated " + strconv.FormatBool(strings.Contains(show(template), " etc"))
		}
		met[want]++
	}
	for _, s := range []string{"repeated true", "repeated false", "error 1", "error 2", "error 4", "error 10", "error 11"} {
		if met[s] < 50 {
			t.Error(s, met[s])
		}
	}
}

// firstForm says whether an etc stands by itself in a template.
func firstForm(d api.Datum) bool {
	l, tail := elements(d)
	for i, x := range l {
		if isEtc(x) && (i == 0 || isEtc(l[i-1])) || !isEtc(x) && firstForm(x) {
			return true
		}
	}
	return isEtc(d) || d.Kind == api.Pair && firstForm(tail)
}
