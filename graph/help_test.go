package graph_test

import (
	"slices"

	"caracole/api"
	"caracole/sample"
)

var (
	same, read, show             = sample.Same, sample.Read, sample.Show
	parse, text, graphs          = sample.ParseGraph, sample.GraphText, sample.Graphs
	exampleC, exampleB, exampleT = sample.GraphC, sample.GraphB, sample.GraphT
)

// doubling has n cells: n - 1 pairs of the next one, and a leaf. It unfolds to 2 to the n, less 1, pieces.
func doubling(n int, leaf api.Cell) api.Graph {
	var g api.Graph
	for i := range n - 1 {
		g.Cells = append(g.Cells, api.Cell{Kind: api.Pair, Parts: []int{i + 1, i + 1}})
	}
	g.Cells = append(g.Cells, leaf)
	return g
}

// wide is a vector of n times the number 0.
func wide(n int) api.Graph {
	return api.Graph{Cells: []api.Cell{{Kind: api.Vec, Parts: slices.Repeat([]int{1}, n)}, {Kind: api.Num}}}
}

// ring has cells that name the next one, the last one the first one; the marked one has another number of parts.
func ring(n, marked int) api.Graph {
	var g api.Graph
	for i := range n {
		c := api.Cell{Kind: api.Vec, Parts: []int{(i + 1) % n}}
		if i == marked {
			c.Parts = append(c.Parts, c.Parts[0])
		}
		g.Cells = append(g.Cells, c)
	}
	return g
}

// leads says from which cell a path that is not empty leads to which.
func leads(g api.Graph) [][]bool {
	n := len(g.Cells)
	way := make([][]bool, n)
	for i, c := range g.Cells {
		way[i] = make([]bool, n)
		for _, p := range c.Parts {
			way[i][p] = true
		}
	}
	for k := range n {
		for i := range n {
			for j := range n {
				way[i][j] = way[i][j] || way[i][k] && way[k][j]
			}
		}
	}
	return way
}

// unfolded is the unfolding of a cell, as the chapter says it.
func unfolded(g api.Graph, cell, depth int) api.Datum {
	if depth == 0 {
		return sample.Sym("?")
	}
	c := g.Cells[cell]
	d := api.Datum{Kind: c.Kind, Num: c.Num, Text: c.Text}
	for _, p := range c.Parts {
		d.Parts = append(d.Parts, unfolded(g, p, depth-1))
	}
	return d
}

// firstDepth is the least depth to which unfoldings of two cells differ, or -1 if it is beyond the number of all cells.
func firstDepth(g api.Graph, a int, h api.Graph, b int) int {
	equal := func(i, k int) bool { return true }
	for depth := range len(g.Cells) + len(h.Cells) + 1 {
		if !equal(a, b) {
			return depth
		}
		table := map[[2]int]bool{}
		for i, x := range g.Cells {
			for k, y := range h.Cells {
				table[[2]int{i, k}] = x.Kind == y.Kind && x.Num == y.Num && x.Text == y.Text && slices.EqualFunc(x.Parts, y.Parts, equal)
			}
		}
		equal = func(i, k int) bool { return table[[2]int{i, k}] }
	}
	return -1
}
