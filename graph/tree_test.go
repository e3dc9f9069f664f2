package graph_test

import (
	"math"
	"testing"

	"caracole/api"
	"caracole/graph"
	"caracole/sample"
)

func TestTree(t *testing.T) {
	for _, x := range []struct{ g, want string }{
		{text(exampleT()), "(1 1)"}, {"Nil", "()"}, {"Bool 1", "#t"}, {"Str a", `"a"`}, {"Vec", "#()"}, {"Pair 1 1, Vec 2 2, Sym ?", "(#(? ?) . #(? ?))"},
		{"1; Vec 0, Vec 2, Num 5", "#(5)"}, // a cycle that is not reached
		{"2; Nil, Sym a, Vec 1 0 3, Pair 1 0", "#(a () (a))"},
	} {
		if d, e := graph.Tree(parse(x.g)); show(d) != x.want || e != api.OK {
			t.Error(x.g, show(d), e)
		}
	}
	vecOf := func(n int) api.Graph { g := wide(n); return g }
	leadsToCycle := doubling(50, api.Cell{Kind: api.Vec, Parts: []int{49}})
	for i, x := range []struct {
		g    api.Graph
		want api.Errno
	}{
		{exampleC(), api.ErrClash}, {exampleB(), api.ErrClash}, {parse("Vec 1, Vec 2, Vec 1"), api.ErrClash}, {leadsToCycle, api.ErrClash},
		{vecOf(1999), api.OK}, {parse("Pair 1 1, " + text(shifted(wide(998), 1))), api.OK}, {parse("Pair 1 1, " + text(shifted(wide(999), 1))), api.ErrLarge},
		{doubling(10, api.Cell{}), api.OK}, {doubling(11, api.Cell{}), api.ErrLarge}, {doubling(60, api.Cell{}), api.ErrLarge},
	} {
		if d, e := graph.Tree(x.g); e != x.want || e != api.OK && !same(d, api.Datum{}) || e == api.OK && len(sample.Paths(d)) > api.DatumSize {
			t.Error(i, e, "want", x.want)
		}
	}
}

// shifted has all parts moved, to be used behind so many other cells.
func shifted(g api.Graph, by int) api.Graph {
	for _, c := range g.Cells {
		for i := range c.Parts {
			c.Parts[i] += by
		}
	}
	return g
}

func TestUnfold(t *testing.T) {
	for _, x := range []struct {
		g     string
		depth int
		want  string
	}{
		{text(exampleC()), 2, "(1 ? . ?)"}, {text(exampleC()), 0, "?"}, {text(exampleC()), 1, "(? . ?)"}, {text(exampleC()), 4, "(1 1 1 ? . ?)"},
		{text(exampleB()), 3, "(1 1 ? . ?)"}, {text(exampleT()), 2, "(1 ? . ?)"}, {text(exampleT()), 3, "(1 1)"}, {text(exampleT()), 12, "(1 1)"},
		{"Vec 0", 12, "#(#(#(#(#(#(#(#(#(#(#(#(?))))))))))))"}, {"Num 5", 0, "?"}, {"Num 5", 1, "5"}, {"1; Vec 1, Vec 0 2, Sym ?", 3, "#(#(#(? ?)) ?)"},
	} {
		if d, e := graph.Unfold(parse(x.g), x.depth); show(d) != x.want || e != api.OK {
			t.Error(x.g, x.depth, show(d), e)
		}
	}
	for i, x := range []struct {
		g     api.Graph
		depth int
		want  api.Errno
	}{
		{exampleC(), 13, api.ErrValue}, {exampleC(), -1, api.ErrValue}, {exampleC(), math.MaxInt, api.ErrValue}, {exampleC(), math.MinInt, api.ErrValue},
		{doubling(60, api.Cell{}), 13, api.ErrValue}, {doubling(60, api.Cell{}), -5, api.ErrValue},
		{doubling(60, api.Cell{}), 9, api.OK}, {doubling(60, api.Cell{}), 10, api.ErrLarge}, {doubling(60, api.Cell{}), 12, api.ErrLarge},
		{wide(1999), 0, api.OK}, {wide(1999), 1, api.OK}, {wide(1999), 12, api.OK},
		{parse("Vec 1 2, " + text(shifted(wide(1997), 1))), 2, api.OK}, {parse("Vec 1 2, " + text(shifted(wide(1998), 1))), 2, api.ErrLarge}, {parse("Vec 1 2, " + text(shifted(wide(1998), 1))), 1, api.OK},
	} {
		if d, e := graph.Unfold(x.g, x.depth); e != x.want || e != api.OK && !same(d, api.Datum{}) || e == api.OK && !same(d, unfolded(x.g, x.g.Root, x.depth)) {
			t.Error(i, e, "want", x.want)
		}
	}
}

// TestUnfoldLaws holds Unfold and Tree against the words of the chapter.
func TestUnfoldLaws(t *testing.T) {
	for _, g := range graphs(7, 60) {
		for depth := range 6 {
			want := unfolded(g, g.Root, depth)
			if d, e := graph.Unfold(g, depth); !same(d, want) || e != api.OK {
				t.Error(text(g), depth, show(d), e)
			}
		}
	}
}

// TestTreeLaws is P2.9.
func TestTreeLaws(t *testing.T) {
	r := sample.NewRandom(8)
	for range 200 {
		d := r.Datum(3)
		g, e := graph.Of(d)
		if len(sample.Paths(d)) > api.GraphCells {
			continue
		}
		if back, f := graph.Tree(g); !same(back, d) || e != api.OK || f != api.OK {
			t.Error(show(d), text(g), show(back), e, f)
		}
	}
	for _, g := range graphs(9, 100) {
		d, e := graph.Tree(g)
		cyclic, _ := graph.Cyclic(g)
		if (e == api.ErrClash) != (len(cyclic) > 0) || e != api.OK && e != api.ErrClash && e != api.ErrLarge {
			t.Error(text(g), cyclic, e)
		}
		if e != api.OK || len(sample.Paths(d)) > api.GraphCells {
			continue
		}
		if !same(d, unfolded(g, g.Root, len(g.Cells))) || !same(d, unfolded(g, g.Root, len(g.Cells)+3)) {
			t.Error(text(g), show(d))
		}
		of, f := graph.Of(d)
		if equal, h := graph.Same(of, g); !equal || f != api.OK || h != api.OK {
			t.Error(text(g), text(of), f, h)
		}
	}
}
