package print_test

import (
	"slices"
	"strings"
	"testing"

	"caracole/api"
	"caracole/graph"
	"caracole/print"
	"caracole/sample"
)

// shown is the text of a datum that has one.
func shown(t *testing.T, d api.Datum) string {
	t.Helper()
	text, e := print.Show(d)
	if e != api.OK {
		t.Error(plain(d), e)
	}
	return text
}

// TestBack is P3.6.
func TestBack(t *testing.T) {
	r := sample.NewRandom(6)
	for _, d := range append(data(7, 600), sample.Deep(2000), sample.Wide(1999), sample.Zeros(999), large(8000)) {
		texts := []string{shown(t, d)}
		for _, width := range []int{1, 5, 20, 200, 1 + r.Below(api.PrintWidth)} {
			if text, e := print.Pretty(d, width); e == api.OK {
				texts = append(texts, text)
			}
		}
		for _, text := range texts {
			if back, at, e := print.Read(text); !same(back, d) || at != 0 || e != api.OK {
				t.Errorf("%.200q: %.200s %d %v", text, plain(back), at, e)
			}
		}
	}
}

// spaced has something that means nothing between all tokens, and in front and behind them.
func spaced(r *sample.Random, tokens []string) string {
	gap := func() string {
		return []string{" ", "\n", "\n\n  ", ";\n", " ; ( \" #0= \xff\t\n"}[r.Below(5)]
	}
	var b strings.Builder
	for _, token := range tokens {
		b.WriteString(gap() + token)
	}
	return b.String() + gap() + "; end"
}

// TestSpaces is P3.7.
func TestSpaces(t *testing.T) {
	r := sample.NewRandom(8)
	for _, d := range data(9, 300) {
		tokens, _, e := print.Tokens(shown(t, d))
		if e != api.OK {
			t.Error(plain(d), e)
		}
		text := spaced(r, tokens)
		if len(text) > api.PrintText {
			continue
		}
		if again, at, e := print.Tokens(text); !slices.Equal(again, tokens) || at != 0 || e != api.OK {
			t.Errorf("%q: %q %d %v", text, again, at, e)
		}
		if back, at, e := print.Read(text); !same(back, d) || at != 0 || e != api.OK {
			t.Errorf("%q: %s %d %v", text, plain(back), at, e)
		}
	}
	for _, g := range sample.Graphs(10, 40) {
		text, _ := print.ShowGraph(g)
		tokens, _, _ := print.Tokens(text)
		a, _, e := print.ReadGraph(text)
		b, _, f := print.ReadGraph(spaced(r, tokens))
		if graphText(a) != graphText(b) || e != f || e != api.OK && e != api.ErrMany {
			t.Error(text, graphText(a), graphText(b), e, f)
		}
	}
}

// bare is a text without spaces and line feeds outside of strings.
func bare(t *testing.T, text string) string {
	t.Helper()
	tokens, _, e := print.Tokens(text)
	if e != api.OK {
		t.Error(text, e)
	}
	return strings.Join(tokens, "")
}

// TestPrettyLaws is P3.8.
func TestPrettyLaws(t *testing.T) {
	for i, d := range data(11, 600) {
		text := shown(t, d)
		for _, width := range []int{1, 1 + i%30, 100, len(text) - 1, len(text), len(text) + 1} {
			if width < 1 || width > api.PrintWidth {
				continue
			}
			lines, e := print.Pretty(d, width)
			if e != api.OK || bare(t, lines) != bare(t, text) {
				t.Errorf("%d: %s %v want %s", width, lines, e, text)
			}
			if flat := lines == text; flat != (width >= len(text) || !strings.Contains(lines, "\n")) {
				t.Errorf("%d: %s want %s", width, lines, text)
			}
		}
	}
}

// TestGraphs is P3.9, as far as the graph of the text has no more cells than it may have: cells without parts have no labels, so that there can be more of them.
func TestGraphs(t *testing.T) {
	read := 0
	for _, g := range append(sample.Graphs(12, 150), sample.GraphB(), sample.GraphC(), sample.GraphT()) {
		text, e := print.ShowGraph(g)
		if e != api.OK {
			t.Error(graphText(g), e)
		}
		back, at, e := print.ReadGraph(text)
		if at != 0 || e != api.OK && e != api.ErrMany {
			t.Error(graphText(g), text, at, e)
		}
		if e != api.OK {
			continue
		}
		read++
		if equal, e := graph.Same(back, g); !equal || e != api.OK || back.Root != 0 {
			t.Error(graphText(g), text, graphText(back))
		}
		if again, e := print.ShowGraph(back); again != text || e != api.OK {
			t.Error(graphText(g), text, again, e)
		}
	}
	if read < 700 {
		t.Error(read)
	}
}

// TestAll is P3.10.
func TestAll(t *testing.T) {
	r := sample.NewRandom(13)
	for range 100 {
		a, b := someData(r, 4), someData(r, 4)
		first, e := print.ShowAll(a)
		second, f := print.ShowAll(b)
		if l, at, g := print.ReadAll(first); !sameAll(l, a) || at != 0 || e != api.OK || g != api.OK {
			t.Errorf("%q: %s %d %v %v", first, sample.ShowAll(l), at, e, g)
		}
		for _, both := range []string{first + "\n" + second, strings.TrimSpace(first) + "\n" + second, first + "; a comment\n" + second} {
			if l, at, g := print.ReadAll(both); !sameAll(l, append(slices.Clone(a), b...)) || at != 0 || f != api.OK || g != api.OK {
				t.Errorf("%q: %s %d %v %v", both, sample.ShowAll(l), at, f, g)
			}
		}
	}
	// Texts that need no line feed are read likewise.
	if l, _, e := print.ReadAll("(1)(2)"); len(l) != 2 || e != api.OK {
		t.Error(l, e)
	}
}

// TestCut is P3.11.
func TestCut(t *testing.T) {
	cuts := 0
	for _, d := range data(14, 600) {
		text := shown(t, d)
		if d.Kind < api.Str || text[0] == '\'' {
			continue
		}
		want := len(text) - 1
		if d.Kind == api.Str {
			want = 0
		}
		if back, at, e := print.Read(text[:len(text)-1]); !same(back, nothing()) || at != want || e != api.ErrForm {
			t.Errorf("%q: %s %d %v", text, plain(back), at, e)
		}
		cuts++
	}
	if cuts < 200 {
		t.Error(cuts)
	}
}

// TestTrees is P3.12.
func TestTrees(t *testing.T) {
	trees := 0
	for _, d := range data(15, 500) {
		g, e := graph.Of(d)
		if e != api.OK {
			continue
		}
		trees++
		text := shown(t, d)
		if other, e := print.ShowGraph(g); other != text || e != api.OK {
			t.Error(text, other, e)
		}
		if back, at, e := print.ReadGraph(text); graphText(back) != graphText(g) || at != 0 || e != api.OK {
			t.Error(text, graphText(back), at, e, "want", graphText(g))
		}
	}
	if trees < 300 {
		t.Error(trees)
	}
}

// TestDifferent is P3.13.
func TestDifferent(t *testing.T) {
	known := map[string]api.Datum{}
	all := data(16, 2000)
	for _, x := range []string{"(quote a)", "(quote . a)", "(a quote b)", "(a . b)", "(a b)", "#(a b)", "((a b))", "#((a b))", "()", "#()", "(())", "#f", "0", `"0"`, `"#f"`, `"()"`, `"a"`, "a"} {
		d, _, _ := print.Read(x)
		all = append(all, d)
	}
	for _, d := range all {
		text := shown(t, d)
		if other, is := known[text]; is && !same(other, d) {
			t.Error(text, plain(d), plain(other))
		}
		known[text] = d
	}
	if len(known) < 600 {
		t.Error(len(known))
	}
}
