package graph_test

import (
	"math"
	"slices"
	"testing"

	"caracole/api"
	"caracole/graph"
	"caracole/sample"
)

func TestCellsOf(t *testing.T) {
	for _, x := range []struct {
		g                     string
		reach, cyclic, shared []int
	}{
		{text(exampleB()), []int{0, 1, 2}, []int{0, 2}, []int{0, 1}},
		{text(exampleC()), []int{0, 1}, []int{0}, []int{0}},
		{text(exampleT()), []int{0, 1, 2, 3, 4}, nil, nil},
		{"Nil", []int{0}, nil, nil},
		{"Vec 0", []int{0}, []int{0}, []int{0}},
		{"Vec 1 1, Nil", []int{0, 1}, nil, []int{1}},
		{"Pair 1 1, Vec 2, Vec 2 1", []int{0, 1, 2}, []int{1, 2}, []int{1, 2}},
		{"1; Pair 1 1, Nil", []int{1}, nil, nil},
		{"1; Vec 1 0, Vec 2, Num 3", []int{1, 2}, nil, nil},
		{"3; Nil, Pair 0 2, Vec 2 3, Pair 0 1", []int{0, 1, 2, 3}, []int{1, 2, 3}, []int{0, 2, 3}},
		{"2; Vec 2, Vec 2, Vec 0", []int{0, 2}, []int{0, 2}, []int{2}},
		{"4; Vec 3, Vec 0, Vec 0, Nil, Vec 2 1", []int{0, 1, 2, 3, 4}, nil, []int{0}},
	} {
		reach, e := graph.Reach(parse(x.g))
		cyclic, f := graph.Cyclic(parse(x.g))
		shared, h := graph.Shared(parse(x.g))
		if !slices.Equal(reach, x.reach) || !slices.Equal(cyclic, x.cyclic) || !slices.Equal(shared, x.shared) || e != api.OK || f != api.OK || h != api.OK {
			t.Error(x.g, reach, cyclic, shared, e, f, h)
		}
	}
}

// TestCellsLaws holds Reach, Cyclic and Shared against the words of the chapter.
func TestCellsLaws(t *testing.T) {
	for _, g := range graphs(3, 150) {
		way := leads(g)
		var reach, cyclic, shared []int
		names := map[int]int{g.Root: 1}
		for c := range g.Cells {
			if c == g.Root || way[g.Root][c] {
				reach = append(reach, c)
				for _, p := range g.Cells[c].Parts {
					names[p]++
				}
			}
		}
		for _, c := range reach {
			if way[c][c] {
				cyclic = append(cyclic, c)
			}
			if names[c] > 1 {
				shared = append(shared, c)
			}
		}
		r, e := graph.Reach(g)
		c, f := graph.Cyclic(g)
		s, h := graph.Shared(g)
		if !slices.Equal(r, reach) || !slices.Equal(c, cyclic) || !slices.Equal(s, shared) || e != api.OK || f != api.OK || h != api.OK {
			t.Error(text(g), r, c, s, "want", reach, cyclic, shared)
		}
	}
}

// TestCyclicLaw is P2.11: a reached cell is cyclic just if it is reached from a cell that one of its parts names.
func TestCyclicLaw(t *testing.T) {
	for _, g := range graphs(4, 100) {
		reach, _ := graph.Reach(g)
		cyclic, _ := graph.Cyclic(g)
		for _, c := range reach {
			back := false
			for _, p := range g.Cells[c].Parts {
				from, e := graph.Reach(api.Graph{Cells: g.Cells, Root: p})
				back = back || slices.Contains(from, c)
				if e != api.OK {
					t.Error(text(g), p, e)
				}
			}
			if slices.Contains(cyclic, c) != back {
				t.Error(text(g), c, back)
			}
		}
	}
}

func TestAt(t *testing.T) {
	b, vec := exampleB(), parse("2; Sym a, Vec 0 2 1, Pair 1 0, Nil")
	for _, x := range []struct {
		g    api.Graph
		path []int
		want int
	}{
		{b, []int{1, 1, 0}, 1}, {b, nil, 0}, {b, []int{}, 0}, {b, []int{1}, 2}, {b, []int{1, 1}, 0}, {b, slices.Repeat([]int{1}, 10001), 2}, {exampleT(), []int{1, 1}, 4},
		{vec, nil, 2}, {vec, []int{0}, 1}, {vec, []int{1}, 0}, {vec, []int{0, 2, 1, 0, 0}, 0}, {vec, []int{0, 0}, 0},
	} {
		if c, e := graph.At(x.g, x.path); c != x.want || e != api.OK {
			t.Error(text(x.g), x.path, c, e)
		}
	}
	for _, path := range [][]int{{0, 0}, {2}, {-1}, {1, 2}, {1, 1, 1, 0, 0}, {math.MaxInt}, {math.MinInt}, {0, -1}, {0, 0, 1}, {1, 2, 0}} {
		if c, e := graph.At(b, path); c != 0 || e != api.ErrRange {
			t.Error(path, c, e)
		}
	}
}

func TestSet(t *testing.T) {
	for _, x := range []struct {
		g              string
		cell, part, to int
		want           string
		e              api.Errno
	}{
		{text(exampleC()), 0, 1, 1, "Pair 1 1, Num 1", api.OK},
		{text(exampleC()), 1, 0, 0, "", api.ErrRange},
		{text(exampleC()), 0, 0, 0, "Pair 0 0, Num 1", api.OK},
		{"1; Nil, Vec 1 1 0, Str a, Vec 3", 1, 1, 2, "1; Nil, Vec 1 2 0, Str a, Vec 3", api.OK},
		{"1; Nil, Vec 1 1 0, Str a, Vec 3", 3, 0, 3, "1; Nil, Vec 1 1 0, Str a, Vec 3", api.OK},
		{"1; Nil, Vec 1 1 0, Str a, Vec 3", 3, 0, 0, "1; Nil, Vec 1 1 0, Str a, Vec 0", api.OK},
		{"Vec", 0, 0, 0, "", api.ErrRange},
	} {
		if g, e := graph.Set(parse(x.g), x.cell, x.part, x.to); text(g) != x.want || e != x.e {
			t.Error(x.g, x.cell, x.part, x.to, text(g), e)
		}
	}
	for _, x := range [][3]int{{-1, 0, 0}, {2, 0, 0}, {0, -1, 0}, {0, 2, 0}, {0, 0, -1}, {0, 0, 2}, {math.MaxInt, 0, 0}, {math.MinInt, 0, 0}, {0, math.MaxInt, 0}, {0, math.MinInt, 0}, {0, 0, math.MaxInt}, {0, 0, math.MinInt}, {-1, -1, -1}, {1, 1, 1}} {
		if g, e := graph.Set(exampleC(), x[0], x[1], x[2]); text(g) != "" || e != api.ErrRange {
			t.Error(x, text(g), e)
		}
	}
}

// TestSetLaws is P2.12; and nothing but the one part is another one.
func TestSetLaws(t *testing.T) {
	r := sample.NewRandom(5)
	for _, g := range graphs(6, 60) {
		way := leads(g)
		for c := range g.Cells {
			for i, p := range g.Cells[c].Parts {
				if out, e := graph.Set(g, c, i, p); text(out) != text(g) || e != api.OK {
					t.Error(text(g), c, i, text(out), e)
				}
				to := r.Below(len(g.Cells))
				out, e := graph.Set(g, c, i, to)
				want := parse(text(g))
				want.Cells[c].Parts[i] = to
				if text(out) != text(want) || e != api.OK {
					t.Error(text(g), c, i, to, text(out), e)
				}
				for other := range g.Cells {
					if other == c || way[other][c] {
						continue
					}
					before, e := graph.Unfold(api.Graph{Cells: g.Cells, Root: other}, 5)
					after, f := graph.Unfold(api.Graph{Cells: out.Cells, Root: other}, 5)
					if !same(before, after) || e != api.OK || f != api.OK {
						t.Error(text(g), c, i, to, other, show(before), show(after), e, f)
					}
				}
			}
		}
	}
}
