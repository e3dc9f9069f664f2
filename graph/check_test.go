package graph_test

import (
	"math"
	"slices"
	"strings"
	"testing"

	"caracole/api"
	"caracole/graph"
	"caracole/sample"
)

type fault struct {
	name string
	g    api.Graph
	want api.Errno
}

// with is the graph of one cell behind a valid one, with the root 0.
func with(c api.Cell) api.Graph {
	return api.Graph{Cells: []api.Cell{{Kind: api.Vec, Parts: []int{0}}, c}}
}

// faults are graphs that are not valid, with their first errors. Where several errors apply the others are there to be passed over.
func faults() []fault {
	bad := api.Cell{Kind: 9}
	many := func(n int, c api.Cell) []api.Cell { return slices.Repeat([]api.Cell{c}, n) }
	parts := func(kind int, parts ...int) api.Cell { return api.Cell{Kind: kind, Parts: parts} }
	two := func(a, b api.Cell, root int) api.Graph { return api.Graph{Cells: []api.Cell{a, b}, Root: root} }
	return []fault{
		{"no cells", api.Graph{}, api.ErrFew},
		{"few before the root", api.Graph{Cells: []api.Cell{}, Root: 5}, api.ErrFew},
		{"too many", api.Graph{Cells: many(api.GraphCells+1, api.Cell{})}, api.ErrMany},
		{"many before their errors", api.Graph{Cells: many(100, bad), Root: -1}, api.ErrMany},
		{"kind above", with(api.Cell{Kind: 7}), api.ErrKind},
		{"kind below", with(api.Cell{Kind: -1}), api.ErrKind},
		{"kind before form", with(api.Cell{Kind: 7, Num: 1, Text: "a", Parts: []int{9}}), api.ErrKind},
		{"nil with number", with(api.Cell{Num: 1}), api.ErrForm},
		{"nil with text", with(api.Cell{Text: "a"}), api.ErrForm},
		{"nil with a part", with(parts(api.Nil, 0)), api.ErrForm},
		{"bool with text", with(api.Cell{Kind: api.Bool, Text: "a"}), api.ErrForm},
		{"bool with a part", with(parts(api.Bool, 0)), api.ErrForm},
		{"bool 2", with(api.Cell{Kind: api.Bool, Num: 2}), api.ErrValue},
		{"bool: form before value", with(api.Cell{Kind: api.Bool, Num: 2, Text: "a"}), api.ErrForm},
		{"num with text", with(api.Cell{Kind: api.Num, Text: "1"}), api.ErrForm},
		{"num with a part", with(parts(api.Num, 0)), api.ErrForm},
		{"num above", with(api.Cell{Kind: api.Num, Num: api.NumMost + 1}), api.ErrValue},
		{"num below", with(api.Cell{Kind: api.Num, Num: -api.NumMost - 1}), api.ErrValue},
		{"sym with number", with(api.Cell{Kind: api.Sym, Text: "a", Num: 1}), api.ErrForm},
		{"sym with a part", with(api.Cell{Kind: api.Sym, Text: "a", Parts: []int{0}}), api.ErrForm},
		{"sym empty", with(api.Cell{Kind: api.Sym}), api.ErrName},
		{"sym capital", with(api.Cell{Kind: api.Sym, Text: "A"}), api.ErrName},
		{"sym number", with(api.Cell{Kind: api.Sym, Text: "-1"}), api.ErrName},
		{"sym long", with(api.Cell{Kind: api.Sym, Text: strings.Repeat("a", 21)}), api.ErrName},
		{"str with a part", with(api.Cell{Kind: api.Str, Text: "a", Parts: []int{0}}), api.ErrForm},
		{"str long", with(api.Cell{Kind: api.Str, Text: strings.Repeat("\n", 61)}), api.ErrLarge},
		{"str line feed", with(api.Cell{Kind: api.Str, Text: "\n"}), api.ErrValue},
		{"pair of none", with(parts(api.Pair)), api.ErrForm},
		{"pair of one", with(parts(api.Pair, 0)), api.ErrForm},
		{"pair of three", with(parts(api.Pair, 0, 1, 0)), api.ErrForm},
		{"pair of many", with(parts(api.Pair, make([]int, 3000)...)), api.ErrForm},
		{"pair with number", with(api.Cell{Kind: api.Pair, Num: 1, Parts: []int{0, 0}}), api.ErrForm},
		{"pair: form before parts", with(parts(api.Pair, 2)), api.ErrForm},
		{"vec with text", with(api.Cell{Kind: api.Vec, Text: "a"}), api.ErrForm},
		{"vec: form before parts", with(api.Cell{Kind: api.Vec, Num: 1, Parts: []int{-1}}), api.ErrForm},
		{"vec too large", with(parts(api.Vec, make([]int, api.DatumSize)...)), api.ErrLarge},
		{"vec: large before parts", with(parts(api.Vec, slices.Repeat([]int{9}, 5000)...)), api.ErrLarge},
		{"part above", with(parts(api.Vec, 0, 2)), api.ErrRange},
		{"part below", with(parts(api.Pair, 0, -1)), api.ErrRange},
		{"part far above", with(parts(api.Vec, math.MaxInt)), api.ErrRange},
		{"part far below", with(parts(api.Vec, math.MinInt)), api.ErrRange},
		{"parts of a cell before the next one", two(parts(api.Pair, 0, 5), bad, 9), api.ErrRange},
		{"a cell before parts of the next one", two(api.Cell{Kind: api.Sym}, parts(api.Vec, 9), 9), api.ErrName},
		{"a cell that is not reached", two(api.Cell{}, api.Cell{Kind: api.Bool, Num: -1}, 0), api.ErrValue},
		{"cells before the root", two(api.Cell{}, bad, 2), api.ErrKind},
		{"root above", two(api.Cell{}, api.Cell{}, 2), api.ErrRange},
		{"root below", two(api.Cell{}, api.Cell{}, -1), api.ErrRange},
		{"root far below", two(api.Cell{}, api.Cell{}, math.MinInt), api.ErrRange},
	}
}

func TestCheckFaults(t *testing.T) {
	for _, f := range faults() {
		if e := graph.Check(f.g); e != f.want {
			t.Error(f.name, e, "want", f.want)
		}
	}
}

func TestCheckValid(t *testing.T) {
	all := []api.Graph{exampleC(), exampleB(), exampleT(), wide(api.DatumSize - 1), doubling(api.GraphCells, api.Cell{}), ring(api.GraphCells, 5)}
	for _, x := range []string{"Nil", "1; Nil, Vec 0 1", "Vec", "Pair 0 0", "Bool 0", "Bool 1", "Num 999999999", "Num -999999999", "Sym ?", "Sym -a1", "Str", "Str A b~", "2; Vec, Vec 2 2, Sym a"} {
		all = append(all, parse(x))
	}
	for _, c := range []api.Cell{{Kind: api.Str, Text: strings.Repeat("x", 60)}, {Kind: api.Sym, Text: strings.Repeat("x", 20)}, {Kind: api.Num, Parts: []int{}}, {Kind: api.Vec, Parts: []int{}}} {
		all = append(all, with(c))
	}
	for _, g := range append(all, graphs(1, 40)...) {
		if e := graph.Check(g); e != api.OK {
			t.Error(text(g), e)
		}
	}
}

// TestExampleCheck has the examples of the chapter.
func TestExampleCheck(t *testing.T) {
	root, part := exampleC(), exampleC()
	root.Root, part.Cells[0].Parts[1] = 2, 2
	for i, x := range []struct {
		g    api.Graph
		want api.Errno
	}{{exampleC(), api.OK}, {root, api.ErrRange}, {part, api.ErrRange}, {api.Graph{}, api.ErrFew}} {
		if e := graph.Check(x.g); e != x.want {
			t.Error(i, e)
		}
	}
}

func TestOf(t *testing.T) {
	for _, x := range []struct{ d, want string }{
		{"(1 1)", "Pair 1 2, Num 1, Pair 3 4, Num 1, Nil"},
		{"()", "Nil"}, {"#t", "Bool 1"}, {"-7", "Num -7"}, {"a", "Sym a"}, {`"b"`, "Str b"}, {"#()", "Vec"}, {"(1 . a)", "Pair 1 2, Num 1, Sym a"},
		{"((1) . 2)", "Pair 1 4, Pair 2 3, Num 1, Nil, Num 2"}, {"#((a) #() b)", "Vec 1 4 5, Pair 2 3, Sym a, Nil, Vec, Sym b"},
	} {
		if g, e := graph.Of(read(x.d)); text(g) != x.want || e != api.OK {
			t.Error(x.d, text(g), e)
		}
	}
	for i, x := range []struct {
		d    api.Datum
		want api.Errno
	}{
		{sample.Wide(59), api.OK}, {sample.Wide(60), api.ErrMany}, {sample.Deep(60), api.OK}, {sample.Deep(61), api.ErrMany}, {sample.Zeros(29), api.OK}, {sample.Zeros(30), api.ErrMany},
		{sample.Wide(1999), api.ErrMany}, {sample.Wide(2000), api.ErrLarge}, {api.Datum{Kind: 7}, api.ErrKind}, {sample.Sym("A"), api.ErrName}, {sample.Bool(2), api.ErrValue}, {api.Datum{Kind: api.Pair}, api.ErrForm},
		{sample.Vec(sample.Wide(100), sample.Sym("")), api.ErrName}, {sample.Vec(sample.Wide(2000), sample.Num(-api.NumMost-1)), api.ErrValue},
	} {
		g, e := graph.Of(x.d)
		if e != x.want || e != api.OK && text(g) != "" || e == api.OK && graph.Check(g) != api.OK {
			t.Error(i, text(g), e, "want", x.want)
		}
	}
}

// TestOfLaws: there is a cell for each piece, in their order, which is the one of their paths.
func TestOfLaws(t *testing.T) {
	r := sample.NewRandom(2)
	for range 300 {
		d := r.Datum(3)
		paths := sample.Paths(d)
		g, e := graph.Of(d)
		if len(paths) > api.GraphCells {
			continue
		}
		if e != api.OK || len(g.Cells) != len(paths) || g.Root != 0 {
			t.Error(show(d), text(g), e)
		}
		for i, path := range paths {
			c, e := graph.At(g, path)
			piece := sample.Follow(d, path)
			if c != i || e != api.OK || g.Cells[c].Kind != piece.Kind || g.Cells[c].Num != piece.Num || g.Cells[c].Text != piece.Text || len(g.Cells[c].Parts) != len(piece.Parts) {
				t.Error(show(d), text(g), path, c, e)
			}
		}
	}
}
