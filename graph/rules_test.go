package graph_test

import (
	"slices"
	"testing"

	"caracole/api"
	"caracole/graph"
	"caracole/sample"
)

// call is a function of the package with a first graph and others, and all else so that it comes to an error if the graphs are valid and the function has one for it.
type call func(g, h api.Graph) api.Errno

func calls() map[string]call {
	return map[string]call{
		"Check":  func(g, _ api.Graph) api.Errno { return graph.Check(g) },
		"Reach":  func(g, _ api.Graph) api.Errno { l, e := graph.Reach(g); return zero(e, len(l) == 0) },
		"Cyclic": func(g, _ api.Graph) api.Errno { l, e := graph.Cyclic(g); return zero(e, len(l) == 0) },
		"Shared": func(g, _ api.Graph) api.Errno { l, e := graph.Shared(g); return zero(e, len(l) == 0) },
		"Tree":   func(g, _ api.Graph) api.Errno { d, e := graph.Tree(g); return zero(e, same(d, api.Datum{})) },
		"Unfold": func(g, _ api.Graph) api.Errno {
			d, e := graph.Unfold(g, -1)
			return zero(e, same(d, api.Datum{}))
		},
		"Same":  func(g, h api.Graph) api.Errno { is, e := graph.Same(g, h); return zero(e, !is) },
		"Apart": func(g, h api.Graph) api.Errno { n, e := graph.Apart(g, h); return zero(e, n == 0) },
		"Least": func(g, _ api.Graph) api.Errno { h, e := graph.Least(g); return zero(e, text(h) == "") },
		"At":    func(g, _ api.Graph) api.Errno { n, e := graph.At(g, []int{-1}); return zero(e, n == 0) },
		"Set":   func(g, _ api.Graph) api.Errno { h, e := graph.Set(g, -1, -1, -1); return zero(e, text(h) == "") },
	}
}

// zero is the error of a call; it is -1 if there is one, and the other result is no zero value (R3).
func zero(e api.Errno, isZero bool) api.Errno {
	if e != api.OK && !isZero {
		return -1
	}
	return e
}

// TestErrorsOfGraphs: all functions return the error of their first graph, then that of the second one, and then their own errors.
func TestErrorsOfGraphs(t *testing.T) {
	two := map[string]bool{"Same": true, "Apart": true}
	for _, f := range faults() {
		for name, call := range calls() {
			if e := call(f.g, api.Graph{Cells: []api.Cell{{Kind: 99}}}); e != f.want {
				t.Error(name, f.name, e, "want", f.want)
			}
			if e := call(exampleC(), f.g); two[name] && e != f.want {
				t.Error(name, "second", f.name, e, "want", f.want)
			}
		}
	}
	for name, want := range map[string]api.Errno{"Tree": api.ErrClash, "Unfold": api.ErrValue, "Apart": api.ErrNone, "At": api.ErrRange, "Set": api.ErrRange, "Same": api.OK, "Least": api.OK} {
		if e := calls()[name](exampleC(), exampleB()); e != want {
			t.Error(name, e, "want", want)
		}
	}
}

// scribble writes into all memory of a graph, also behind its slices.
func scribble(g api.Graph) {
	cells := g.Cells[:cap(g.Cells)]
	for i, c := range cells {
		parts := c.Parts[:cap(c.Parts)]
		for k := range parts {
			parts[k] = 77
		}
		cells[i] = api.Cell{Kind: 77}
	}
}

// TestMemory: no result shares memory with an argument, nor with itself (R4).
func TestMemory(t *testing.T) {
	for _, g := range append(graphs(20, 30), parse("Vec 0 0 0"), exampleB()) {
		before := text(g)
		least, _ := graph.Least(g)
		was := text(least)
		set, e := graph.Set(g, 0, 0, 0)
		wasSet := text(set)
		scribble(least)
		if text(g) != before || text(set) != wasSet {
			t.Error(before, text(g))
		}
		scribble(set)
		if text(g) != before || len(g.Cells[0].Parts) > 0 != (e == api.OK) {
			t.Error(before, text(g), e)
		}
		least, _ = graph.Least(g)
		set, _ = graph.Set(g, 0, 0, 0)
		scribble(g)
		if text(least) != was || text(set) != wasSet {
			t.Error(before, was, text(least), wasSet, text(set))
		}
		for _, out := range []api.Graph{least, set} {
			apart(t, out)
		}
	}
	d := sample.Vec(sample.Num(1), sample.Vec(sample.Sym("a")))
	g, _ := graph.Of(d)
	apart(t, g)
	scribble(g)
	if show(d) != "#(1 #(a))" {
		t.Error(show(d))
	}
}

// apart fails if two cells of a graph share memory.
func apart(t *testing.T, g api.Graph) {
	t.Helper()
	before := text(g)
	for i := range g.Cells {
		g.Cells[i].Parts = append(g.Cells[i].Parts, 5)[:len(g.Cells[i].Parts)]
		parts := slices.Clone(g.Cells[i].Parts)
		for k := range parts {
			g.Cells[i].Parts[k] = -1
		}
		for k, other := range g.Cells {
			if k != i && slices.Contains(other.Parts, -1) {
				t.Error(before, i, k)
			}
		}
		copy(g.Cells[i].Parts, parts)
	}
}

// TestTreeMemory: a datum that is made of a graph shares no memory with itself, even where cells are shared.
func TestTreeMemory(t *testing.T) {
	g := parse("Vec 1 1 2, Vec 3, Vec 1 1, Nil")
	for name, make := range map[string]func() (api.Datum, api.Errno){
		"Tree":   func() (api.Datum, api.Errno) { return graph.Tree(g) },
		"Unfold": func() (api.Datum, api.Errno) { return graph.Unfold(g, 5) },
	} {
		d, e := make()
		d.Parts[0].Parts[0].Num = 5
		if show(d) != "#(#(()) #(()) #(#(()) #(())))" || d.Parts[1].Parts[0].Num == 5 || d.Parts[2].Parts[0].Parts[0].Num == 5 || e != api.OK {
			t.Error(name, show(d), e)
		}
	}
}

// TestArgumentsStay: arguments are not changed, not even the memory behind them, and calls with the same ones return the same (R2, R4).
func TestArgumentsStay(t *testing.T) {
	store := append(make([]api.Cell, 0, 20), append(exampleB().Cells, api.Cell{Kind: 88})...)
	parts := []int{1, 0, 99}
	g := api.Graph{Cells: store[:3]}
	g.Cells[2].Parts = parts[:2]
	path := []int{1, 1, 0}
	for range 2 {
		for name, call := range calls() {
			if call(g, g) != call(g, g) || call(g, exampleT()) != call(g, exampleT()) || call(exampleT(), g) != call(exampleT(), g) {
				t.Error(name)
			}
		}
		graph.Set(g, 2, 0, 0)
		graph.Unfold(g, 3)
		if c, e := graph.At(g, path); c != 1 || e != api.OK {
			t.Error(c, e)
		}
		if text(g) != text(exampleB()) || store[3].Kind != 88 || parts[2] != 99 || !slices.Equal(path, []int{1, 1, 0}) {
			t.Error(text(g), store, parts, path)
		}
	}
}

// TestEmptyAndNil: a nil slice and an empty one mean the same (R4).
func TestEmptyAndNil(t *testing.T) {
	a, b := with(api.Cell{Kind: api.Vec}), with(api.Cell{Kind: api.Vec, Parts: []int{}})
	a.Root, b.Root = 1, 1
	if is, e := graph.Same(a, b); !is || e != api.OK {
		t.Error(is, e)
	}
	x, _ := graph.Tree(a)
	y, _ := graph.Tree(b)
	if !same(x, y) || show(x) != "#()" {
		t.Error(show(x), show(y))
	}
	if c, e := graph.At(a, []int{}); c != 1 || e != api.OK {
		t.Error(c, e)
	}
}

// TestAnyValue: functions return whatever the fields of a graph are (P1, R5).
func TestAnyValue(t *testing.T) {
	r := sample.NewRandom(21)
	wild := func() api.Graph {
		g := r.Graph(3)
		for range r.Below(3) {
			c := &g.Cells[r.Below(len(g.Cells))]
			switch r.Below(5) {
			case 0:
				c.Kind = r.Below(9) - 1
			case 1:
				c.Num = r.Below(3) - 1
			case 2:
				c.Text = []string{"", "a", "A", "\n"}[r.Below(4)]
			case 3:
				c.Parts = append(c.Parts, r.Below(5)-1)
			default:
				g.Root = r.Below(5) - 1
			}
		}
		return g
	}
	for range 3000 {
		g, h := wild(), wild()
		for name, call := range calls() {
			if e := call(g, h); e < api.OK || e > api.ErrStuck {
				t.Error(name, g, h, e)
			}
		}
		if out, e := graph.Set(g, r.Below(3), r.Below(3), r.Below(3)); e == api.OK && graph.Check(out) != api.OK {
			t.Error(g, out)
		}
		if out, e := graph.Least(g); e == api.OK && graph.Check(out) != api.OK {
			t.Error(g, out)
		}
		if d, e := graph.Unfold(g, r.Below(15)-1); e == api.OK && len(sample.Paths(d)) > api.DatumSize {
			t.Error(g, show(d))
		}
	}
}

// TestLargest: a graph that is as large as one may be is no trouble (P1).
func TestLargest(t *testing.T) {
	var g api.Graph
	for i := range api.GraphCells {
		parts := slices.Repeat([]int{i}, api.DatumSize-1)
		parts[i] = min(i+1, api.GraphCells-1)
		g.Cells = append(g.Cells, api.Cell{Kind: api.Vec, Parts: parts})
	}
	last := &g.Cells[api.GraphCells-1]
	last.Parts = last.Parts[1:]
	h := g
	h.Cells = append([]api.Cell{{}}, g.Cells[1:]...)
	h.Root = 1
	reach, _ := graph.Reach(g)
	cyclic, _ := graph.Cyclic(g)
	shared, _ := graph.Shared(g)
	least, _ := graph.Least(g)
	depth, e := graph.Apart(g, h)
	if len(reach) != api.GraphCells || len(cyclic) != api.GraphCells || len(shared) != api.GraphCells || len(least.Cells) != api.GraphCells || depth != api.GraphCells-1 || e != api.OK {
		t.Error(len(reach), len(cyclic), len(shared), len(least.Cells), depth, e)
	}
	if _, e := graph.Unfold(g, 12); e != api.ErrLarge {
		t.Error(e)
	}
	if _, e := graph.Tree(g); e != api.ErrClash {
		t.Error(e)
	}
}
