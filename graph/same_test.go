package graph_test

import (
	"slices"
	"testing"

	"caracole/api"
	"caracole/graph"
	"caracole/sample"
)

func TestSameApart(t *testing.T) {
	one, two := api.Cell{Kind: api.Num, Num: 1}, api.Cell{Kind: api.Num, Num: 2}
	for i, x := range []struct {
		g, h api.Graph
		want int // 0 if they are the same
	}{
		{exampleB(), exampleC(), 0}, {exampleC(), exampleT(), 3}, {exampleB(), exampleT(), 3}, {exampleC(), exampleC(), 0},
		{parse("Nil"), parse("Nil"), 0}, {parse("Nil"), parse("Vec"), 1}, {parse("Num 1"), parse("Num 2"), 1}, {parse("Num 0"), parse("Bool 0"), 1}, {parse("Sym a"), parse("Str a"), 1}, {parse("Sym a"), parse("Sym b"), 1},
		{parse("Vec 0"), parse("Vec 0 0"), 1}, {parse("Vec 1, Vec"), parse("Vec 1, Nil"), 2}, {parse("Vec 0"), parse("Vec 1, Vec 2, Vec 0"), 0}, {parse("Vec 1 0, Nil"), parse("Vec 0 1, Nil"), 2},
		{parse("Pair 1 2, Sym ?, Nil"), parse("Pair 1 1, Nil"), 2}, {parse("Sym ?"), parse("Nil"), 1}, {parse("Pair 1 0, Sym ?"), parse("Pair 1 0, Sym ?"), 0},
		{parse("1; Num 5, Vec 0"), parse("Vec 1, Num 5, Num 6"), 0}, {parse("Vec 1 2, Vec 3, Vec 4, Num 1, Num 2"), parse("Vec 1 1, Vec 2, Num 1"), 3},
		{parse("Vec 1 2, Vec 2, Vec 1"), parse("Vec 1 1, Vec 1"), 0}, {parse("Vec 1 2, Num 1, Num 2"), parse("Vec 2 1, Num 1, Num 2"), 2},
		{doubling(60, one), doubling(60, one), 0}, {doubling(60, one), doubling(60, two), 60}, {doubling(50, one), doubling(60, one), 50}, {wide(1999), wide(1998), 1}, {wide(1999), wide(1999), 0},
		{ring(60, -1), ring(7, -1), 0}, {ring(60, 59), ring(60, 58), 59}, {ring(60, 59), ring(30, 29), 30}, {ring(60, 3), ring(60, 3), 0},
	} {
		for range 2 {
			equal, e := graph.Same(x.g, x.h)
			depth, f := graph.Apart(x.g, x.h)
			if equal != (x.want == 0) || depth != x.want || e != api.OK || f != map[bool]api.Errno{true: api.ErrNone, false: api.OK}[equal] {
				t.Error(i, equal, depth, e, f)
			}
			x.g, x.h = x.h, x.g
		}
	}
}

// TestApartLate has graphs that differ nearly as late as there are cells of both.
func TestApartLate(t *testing.T) {
	for _, x := range [][3]int{{59, 60, 118}, {58, 60, 116}, {29, 30, 58}} {
		g, h := ring(x[0], x[0]-1), ring(x[1], x[0]-1)
		depth, e := graph.Apart(g, h)
		if want := firstDepth(g, 0, h, 0); depth != want || depth != x[2] || e != api.OK {
			t.Error(x, depth, want, e)
		}
	}
}

// TestApartLaws is P2.8, and Same is as the chapter says.
func TestApartLaws(t *testing.T) {
	all := graphs(10, 40)
	for i, g := range all {
		for _, h := range all[max(i-3, 0) : i+1] {
			want := firstDepth(g, g.Root, h, h.Root)
			equal, e := graph.Same(g, h)
			depth, f := graph.Apart(g, h)
			if equal != (want < 0) || e != api.OK || equal && f != api.ErrNone || !equal && (f != api.OK || depth != want || depth > len(g.Cells)+len(h.Cells)) {
				t.Error(text(g), "|", text(h), equal, depth, e, f, "want", want)
			}
			if equal || depth > 5 {
				continue
			}
			for d := range depth + 1 {
				if same(unfolded(g, g.Root, d), unfolded(h, h.Root, d)) != (d < depth) {
					t.Error(text(g), "|", text(h), d, depth)
				}
			}
		}
	}
}

func TestLeast(t *testing.T) {
	for _, x := range []struct{ g, want string }{
		{text(exampleB()), "Pair 1 0, Num 1"}, {text(exampleT()), "Pair 1 2, Num 1, Pair 1 3, Nil"}, {text(exampleC()), "Pair 1 0, Num 1"},
		{"Nil", "Nil"}, {"1; Nil, Nil", "Nil"}, {"2; Num 5, Sym a, Vec 3 1 0 1, Sym b", "Vec 1 2 3 2, Sym b, Sym a, Num 5"},
		{"Vec 1, Vec 2, Vec 0", "Vec 0"}, {"4; Nil, Str a, Pair 1 0, Pair 1 0, Vec 2 3", "Vec 1 1, Pair 2 3, Str a, Nil"},
		{"Pair 1 3, Pair 2 2, Num 1, Pair 4 4, Num 1", "Pair 1 1, Pair 2 2, Num 1"}, {"Pair 2 1, Pair 2 0, Vec 3, Vec", "Pair 1 0, Vec 2, Vec"},
		// Cell 2 is the same as cell 0, and comes in the middle of cell 1. It meets cell 3 before cell 4, but the least graph, in which it is cell 0, does not.
		{"Vec 1 3, Pair 2 4, Vec 1 3, Num 3, Num 4", "Vec 1 3, Pair 0 2, Num 4, Num 3"},
	} {
		if g, e := graph.Least(parse(x.g)); text(g) != x.want || e != api.OK {
			t.Error(x.g, text(g), e)
		}
	}
}

// TestLeastLaws is P2.6, and the cells of Least are numbered as they are met.
func TestLeastLaws(t *testing.T) {
	for _, g := range graphs(11, 100) {
		least, e := graph.Least(g)
		if e != api.OK || graph.Check(least) != api.OK {
			t.Error(text(g), text(least), e)
		}
		if equal, e := graph.Same(g, least); !equal || e != api.OK {
			t.Error(text(g), text(least), e)
		}
		for depth := range 6 {
			if !same(unfolded(g, g.Root, depth), unfolded(least, least.Root, depth)) {
				t.Error(text(g), text(least), depth)
			}
		}
		reach, _ := graph.Reach(least)
		if len(reach) != len(least.Cells) || !slices.Equal(met(least), reach) {
			t.Error(text(g), text(least), reach, met(least))
		}
		for a := range least.Cells {
			for b := range a {
				if firstDepth(least, a, least, b) < 0 {
					t.Error(text(g), text(least), a, b)
				}
			}
		}
		if again, e := graph.Least(least); text(again) != text(least) || e != api.OK {
			t.Error(text(g), text(least), text(again), e)
		}
	}
}

// met are the reached cells in the order of the chapter, by recursion.
func met(g api.Graph) []int {
	var out []int
	var visit func(c int)
	visit = func(c int) {
		if slices.Contains(out, c) {
			return
		}
		out = append(out, c)
		for _, p := range g.Cells[c].Parts {
			visit(p)
		}
	}
	visit(g.Root)
	return out
}

// TestSameLaws is P2.7: graphs are the same just if their Leasts are equal.
func TestSameLaws(t *testing.T) {
	r := sample.NewRandom(12)
	all := graphs(13, 12)
	for _, g := range all[:20] {
		all = append(all, r.Spread(g))
	}
	equals := 0
	for i, g := range all {
		for _, h := range all[:i] {
			equal, e := graph.Same(g, h)
			a, f := graph.Least(g)
			b, k := graph.Least(h)
			if equal != (text(a) == text(b)) || e != api.OK || f != api.OK || k != api.OK {
				t.Error(text(g), "|", text(h), equal, text(a), text(b), e, f, k)
			}
			if equal {
				equals++
			}
		}
	}
	if equals < 20 {
		t.Error(equals)
	}
}

// TestSharedLaw is P2.10.
func TestSharedLaw(t *testing.T) {
	r := sample.NewRandom(14)
	repeats := 0
	for range 300 {
		d := r.Datum(3)
		g, e := graph.Of(d)
		if e != api.OK {
			continue
		}
		if shared, e := graph.Shared(g); len(shared) > 0 || e != api.OK {
			t.Error(show(d), shared, e)
		}
		twice := false
		paths := sample.Paths(d)
		for i := range paths {
			for k := range i {
				twice = twice || same(sample.Follow(d, paths[i]), sample.Follow(d, paths[k]))
			}
		}
		least, _ := graph.Least(g)
		shared, e := graph.Shared(least)
		if twice != (len(shared) > 0) || e != api.OK {
			t.Error(show(d), text(least), shared, e)
		}
		if twice {
			repeats++
		}
	}
	if repeats < 30 {
		t.Error(repeats)
	}
}
