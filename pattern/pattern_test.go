package pattern

import (
	"strings"
	"testing"

	"caracole/api"
	"caracole/plain"
	"caracole/sample"
)

func TestSorts(t *testing.T) {
	for text, want := range map[string]Sort{"()": Literal, "5": Literal, "#t": Literal, "x": Literal, "?": Literal, "etc2": Literal, `"etc"`: Literal, `"?x"`: Literal, "?x": Variable, "??": Variable, "?etc": Variable, "etc": Ellipsis, "#(etc)": Vector, "#()": Vector, "(etc)": List, "(1 . 2)": List} {
		d := sample.Read(text)
		if got := SortOf(d); got != want || IsEtc(d) != (want == Ellipsis) || d.Kind == api.Sym && SortOfSymbol(d.Text) != want {
			t.Error(text, got, want)
		}
	}
}

// told is what variables of a pattern stand for, or "no" if a datum does not fit.
func told(p Pattern, d api.Datum, names string) string {
	if !p.Fits(d) {
		return "no"
	}
	var vars []api.MatchVar
	for i, name := range strings.Fields(names) {
		vars = append(vars, api.MatchVar{Name: name, Depth: i})
	}
	var words []string
	for i, b := range Binds(p, vars, d) {
		if b.Depth != i {
			return "depth"
		}
		words = append(words, b.Name+" "+sample.Show(b.Value))
	}
	return strings.Join(words, "; ")
}

// TestSame: what is no variable, list or vector matches what the function says, wherever it is.
func TestSame(t *testing.T) {
	more := func(p, d api.Datum) bool { return d.Kind == p.Kind && d.Num >= p.Num }
	for _, x := range []struct{ p, d, names, equal, more string }{
		{"1", "1", "", "", ""}, {"1", "2", "", "no", ""}, {"1", "0", "", "no", "no"}, {"1", "x", "", "no", "no"}, {"x", "y", "", "no", ""}, {"?x", "y", "?x", "?x y", "?x y"},
		{"(1 ?x)", "(2 3)", "?x", "no", "?x 3"}, {"(1 ?x . 1)", "(1 3 . 1)", "?x", "?x 3", "?x 3"}, {"(1 ?x . 1)", "(1 3 . 2)", "?x", "no", "?x 3"}, {"#(1 ?x)", "#(2 3)", "?x", "no", "?x 3"}, {"(1 (1 ?x))", "(2 (2 (3)))", "?x", "no", "?x (3)"},
		{"(1 etc ?x)", "(1 1 5)", "?x", "?x 5", "?x 5"}, {"(1 etc ?x)", "(1 4 5)", "?x", "no", "?x 5"}, {"((1 ?x ?y) etc 1)", "((1 2 3) (1 4 5) 1)", "?x ?y", "?x (2 4); ?y (3 5)", "?x (2 4); ?y (3 5)"}, {"((1 ?x ?y) etc 1)", "((2 2 3) (3 4 5) 9)", "?y ?x", "no", "?y (3 5); ?x (2 4)"}, {"((1 ?x ?y) etc 1)", "(1)", "?x ?y", "?x (); ?y ()", "?x (); ?y ()"}, {"#((#(1 ?x) etc) etc)", "#((#(1 2)) ())", "?x", "?x ((2) ())", "?x ((2) ())"}, {"(((1 . ?x) etc) etc . ?y)", "(((4 5) (6)) () . 7)", "?x ?y", "no", "?x (((5) ()) ()); ?y 7"},
	} {
		p, d := sample.Read(x.p), sample.Read(x.d)
		if got := told(Of(p, plain.Equal), d, x.names); got != x.equal {
			t.Error(x.p, x.d, got, "want", x.equal)
		}
		if got := told(Of(p, more), d, x.names); got != x.more {
			t.Error(x.p, x.d, got, "want", x.more)
		}
	}
}
