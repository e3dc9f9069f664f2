package print_test

import (
	"regexp"
	"slices"
	"strconv"
	"strings"
	"testing"

	"caracole/api"
	"caracole/graph"
	"caracole/print"
	"caracole/sample"
)

func TestShowGraph(t *testing.T) {
	least, _ := graph.Least(sample.GraphT())
	for _, x := range []struct {
		g    api.Graph
		want string
	}{
		{sample.GraphC(), "#0=(1 . #0#)"}, {sample.GraphB(), "#0=(1 1 . #0#)"}, {sample.GraphT(), "(1 1)"}, {least, "(1 1)"},
		{parse("Nil"), "()"}, {parse("1; Vec 0, Num -5"), "-5"}, {parse("Str a\"b"), `"a\"b"`}, {parse("Vec"), "#()"}, {parse("Vec 0 0"), "#0=#(#0# #0#)"}, {parse("Pair 0 0"), "#0=(#0# . #0#)"},
		// What has no parts has no label, but for a Vec.
		{parse("Vec 1 1 2 2 3 3 4 4 5 5, Nil, Bool 1, Num 7, Sym a, Str b"), `#(() () #t #t 7 7 a a "b" "b")`}, {parse("Vec 1 1, Vec"), "#(#0=#() #0#)"}, {parse("Pair 1 1, Nil"), "(())"}, {parse("Pair 1 1, Vec"), "(#0=#() . #0#)"},
		// A second part with a label is behind a point.
		{parse("Pair 1 2, Num 1, Pair 1 3, Pair 1 2"), "(1 . #0=(1 1 . #0#))"}, {parse("Vec 1 2, Pair 3 2, Pair 4 5, Num 1, Num 2, Nil"), "#((1 . #0=(2)) #0#)"}, {parse("Vec 2 1, Pair 3 2, Pair 4 5, Num 1, Num 2, Nil"), "#(#0=(2) (1 . #0#))"}, {parse("Pair 1 1, Pair 2 3, Num 1, Nil"), "(#0=(1) . #0#)"},
		// Labels are numbered as they are shown, and cells that are not reached do not count.
		{parse("Vec 3 1 2 1 2 3, Vec 2, Vec, Vec 1"), "#(#0=#(#1=#(#2=#())) #1# #2# #1# #2# #0#)"}, {parse("1; Pair 1 1, Vec 2, Vec, Vec 1"), "#(#())"}, {parse("2; Vec 1 1 2, Vec, Vec 1"), "#(#())"},
		// Quote, with labels and without.
		{parse("Pair 1 2, Sym quote, Pair 3 4, Sym x, Nil"), "'x"}, {parse("Vec 1 1, Pair 2 3, Sym quote, Pair 2 4, Nil"), "#(#0='quote #0#)"}, {parse("Pair 1 2, Sym quote, Pair 3 4, Vec 3, Nil"), "'#0=#(#0#)"}, {parse("Pair 1 2, Sym quote, Pair 0 3, Nil"), "#0='#0#"},
		{parse("Pair 1 2, Sym quote, Pair 2 3, Nil"), "(quote . #0=(#0#))"}, {parse("Vec 1 3, Pair 2 3, Sym quote, Pair 4 5, Num 1, Nil"), "#((quote . #0=(1)) #0#)"}, {parse("Vec 3 1, Pair 2 3, Sym quote, Pair 4 5, Num 1, Nil"), "#(#0=(1) (quote . #0#))"}, {parse("Pair 1 2, Sym quote, Pair 3 0, Num 1"), "#0=(quote 1 . #0#)"}, {parse("Pair 1 0, Sym quote"), "#0=(quote . #0#)"}, {parse("Pair 1 2, Sym quote, Sym x"), "(quote . x)"},
	} {
		if text, e := print.ShowGraph(x.g); text != x.want || e != api.OK {
			t.Error(graphText(x.g), text, e, "want", x.want)
		}
	}
}

func TestShowGraphErrors(t *testing.T) {
	long := strings.Repeat("x", 60)
	for _, x := range []struct {
		g    api.Graph
		want api.Errno
	}{
		{api.Graph{}, api.ErrFew}, {api.Graph{Cells: make([]api.Cell, 61)}, api.ErrMany}, {api.Graph{Cells: make([]api.Cell, 1), Root: 1}, api.ErrRange}, {parse("Pair 0 1"), api.ErrRange}, {parse("Vec 5, Sym A"), api.ErrRange}, {parse("Vec, Sym A"), api.ErrName}, {parse("Num 1000000000"), api.ErrValue}, {parse("Pair 0"), api.ErrForm}, {api.Graph{Cells: []api.Cell{{Kind: 7}}}, api.ErrKind}, {parse("Str x" + long), api.ErrLarge},
		{vecOf(127, parse("Str "+long)), api.ErrLarge}, {vecOf(1999, parse("Str "+long)), api.ErrLarge}, {vecOf(126, parse("Str "+long)), api.OK}, {vecOf(1999, parse("Num 0")), api.OK},
	} {
		text, e := print.ShowGraph(x.g)
		if e != x.want || e != api.OK && text != "" || len(text) > api.PrintText {
			t.Error(graphText(x.g), len(text), e, "want", x.want)
		}
	}
	// All cells but the last one have as many parts as they may have.
	var g api.Graph
	for i := range api.GraphCells - 1 {
		parts := append(slices.Repeat([]int{api.GraphCells - 1}, api.DatumSize-2), min(i+1, api.GraphCells-2))
		g.Cells = append(g.Cells, api.Cell{Kind: api.Vec, Parts: parts})
	}
	g.Cells = append(g.Cells, api.Cell{Kind: api.Str, Text: strings.Repeat(`"`, 60)})
	if text, e := print.ShowGraph(g); text != "" || e != api.ErrLarge {
		t.Error(len(text), e)
	}
}

// vecOf is a vector of n times the root of another graph of one cell.
func vecOf(n int, g api.Graph) api.Graph {
	return api.Graph{Cells: append([]api.Cell{{Kind: api.Vec, Parts: slices.Repeat([]int{1}, n)}}, g.Cells...)}
}

func TestReadGraph(t *testing.T) {
	for _, x := range []struct{ text, want string }{
		{"#0=(1 . #0#)", "Pair 1 0, Num 1"}, {"1", "Num 1"}, {"(a b)", "Pair 1 2, Sym a, Pair 3 4, Sym b, Nil"}, {"(a . b)", "Pair 1 2, Sym a, Sym b"}, {"(a . (b))", "Pair 1 2, Sym a, Pair 3 4, Sym b, Nil"}, {"((a) b . c)", "Pair 1 4, Pair 2 3, Sym a, Nil, Pair 5 6, Sym b, Sym c"},
		{"'x", "Pair 1 2, Sym quote, Pair 3 4, Sym x, Nil"}, {"'(1)", "Pair 1 2, Sym quote, Pair 3 6, Pair 4 5, Num 1, Nil, Nil"}, {"#('a 1)", "Vec 1 6, Pair 2 3, Sym quote, Pair 4 5, Sym a, Nil, Num 1"}, {"#(() #() #t)", "Vec 1 2 3, Nil, Vec, Bool 1"},
		{"(1 1)", "Pair 1 2, Num 1, Pair 3 4, Num 1, Nil"}, {"(#0=1 #0#)", "Pair 1 2, Num 1, Pair 1 3, Nil"}, {"#(#1=() #0=#() #1# #0#)", "Vec 1 2 1 2, Nil, Vec"}, {"#0=#(#0# #0#)", "Vec 0 0"}, {"#7=a", "Sym a"}, {"#99='#99#", "Pair 1 2, Sym quote, Pair 0 3, Nil"}, {"'#0=x", "Pair 1 2, Sym quote, Pair 3 4, Sym x, Nil"},
		{"#0=(#1=(#0# . #1#) . #1#)", "Pair 1 1, Pair 0 1"}, {"(a . #0=(b . #0#))", "Pair 1 2, Sym a, Pair 3 2, Sym b"}, {"(a #0=b . #0#)", "Pair 1 2, Sym a, Pair 3 3, Sym b"}, {"#0= ; here\n(#0#)", "Pair 0 1, Nil"}, {"#0=#1#", "*3"}, {"(#0=\"a\" . #0#)", "Pair 1 1, Str a"}, {"#0=()", "Nil"},
		// Only the cell of the whole text is the root, however labels are numbered.
		{"#(#2=a #1=b #0=c #0# #1# #2#)", "Vec 1 2 3 3 2 1, Sym a, Sym b, Sym c"},
		// The place of an error.
		{"#0=#0#", "*3"}, {"#1#", "*0"}, {"(#0# #0=a)", "*1"}, {"(#0=a #0=b)", "*6"}, {"#0=#0=a", "*3"}, {"#0=#1=a", "*3"}, {"#(#0=a #1=#0#)", "*10"}, {"#(a . #0=b)", "*4"}, {"#0=", "*3"}, {"(#0=)", "*4"}, {"(a #0= . b)", "*7"}, {"(#0=a . #0# #0#)", "*12"}, {"(a . #0=b c)", "*10"}, {"#0=a #0#", "*5"}, {"#0=a #1=b", "*5"}, {"'#0#", "*1"}, {"#0='", "*4"}, {"#00=a", "*0"}, {"#100=a", "*0"}, {"#0=A", "*3"}, {"(a . #0=)", "*8"}, {"", "*0"}, {"a )", "*2"}, {"(", "*1"}, {"#0=" + `"` + strings.Repeat("x", 61) + `"`, "*3"}, {"#(#0=a #0= b)", "*7"},
	} {
		g, at, e := print.ReadGraph(x.text)
		if place, bad := strings.CutPrefix(x.want, "*"); bad {
			if strconv.Itoa(at) != place || e != api.ErrForm || len(g.Cells) > 0 || g.Root != 0 {
				t.Errorf("%q: %s %d %v want %s", x.text, graphText(g), at, e, place)
			}
			continue
		}
		if graphText(g) != x.want || at != 0 || e != api.OK {
			t.Errorf("%q: %s %d %v want %s", x.text, graphText(g), at, e, x.want)
		}
	}
}

// TestReadGraphMany: there are at most GraphCells cells, which is no error of the form, and comes behind all of these.
func TestReadGraphMany(t *testing.T) {
	wide := func(n int) string { return "#(" + strings.Repeat("0 ", n) + ")" }
	for _, x := range []struct {
		text string
		at   int
		want api.Errno
	}{
		{wide(59), 0, api.OK}, {wide(60), 0, api.ErrMany}, {wide(60) + ")", 123, api.ErrForm}, {"#0=" + wide(60)[:122] + "#1#)", 125, api.ErrForm}, {wide(3000), 0, api.ErrMany}, {strings.Repeat("'", 7999) + "a", 0, api.ErrMany}, {strings.Repeat("'", 14) + "a", 0, api.OK}, {strings.Repeat("'", 15) + "a", 0, api.ErrMany},
		{"#(#0=a" + strings.Repeat("#0#", 1998) + ")", 0, api.OK},
		// Such a cell would be no valid one, since no datum has such a piece.
		{"#(#0=a" + strings.Repeat("#0#", 1999) + ")", 0, api.ErrLarge}, {"#(#0=a" + strings.Repeat("#0#", 1999) + "#1#)", 6003, api.ErrForm},
	} {
		g, at, e := print.ReadGraph(x.text)
		if at != x.at || e != x.want || e != api.OK && len(g.Cells) > 0 || e == api.OK && graph.Check(g) != api.OK {
			t.Errorf("%.20q: %d %v want %d %v", x.text, at, e, x.at, x.want)
		}
	}
}

var labelled = regexp.MustCompile(`#([0-9]+)([=#])`)

// TestLabels: the labels of a text are numbered as they are shown, and there is one for each reached cell that is shared and a Pair or a Vec.
func TestLabels(t *testing.T) {
	for _, g := range sample.Graphs(5, 200) {
		text, e := print.ShowGraph(g)
		if e != api.OK {
			t.Error(graphText(g), e)
		}
		labels := 0
		for _, found := range labelled.FindAllStringSubmatch(text, -1) {
			n, _ := strconv.Atoi(found[1])
			if found[2] == "=" && n != labels || found[2] == "#" && n >= labels {
				t.Error(graphText(g), text)
			}
			if found[2] == "=" {
				labels++
			}
		}
		want := 0
		shared, _ := graph.Shared(g)
		for _, c := range shared {
			if g.Cells[c].Kind >= api.Pair {
				want++
			}
		}
		if labels != want {
			t.Error(graphText(g), text)
		}
	}
}
