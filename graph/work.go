package graph

import (
	"iter"
	"slices"

	"caracole/api"
	"caracole/datum"
	"caracole/guard"
)

// graph is a valid graph at work.
type graph struct{ api.Graph }

// atWork fails with the first error of a graph that is not valid.
func atWork(g api.Graph) graph {
	w := graph{g}
	if len(w.Cells) == 0 {
		guard.Fail(api.ErrFew)
	}
	if len(w.Cells) > api.GraphCells {
		guard.Fail(api.ErrMany)
	}
	for _, c := range w.Cells {
		inspect(c)
		for _, p := range c.Parts {
			w.need(p)
		}
	}
	w.need(w.Root)
	return w
}

// inspect fails with the error of a datum that is like the cell, with an empty list for each part. How many there are matters only up to DatumSize, with which a datum is too large.
func inspect(c api.Cell) {
	parts := make([]api.Datum, min(len(c.Parts), api.DatumSize))
	guard.Check(datum.Check(api.Datum{Kind: c.Kind, Num: c.Num, Text: c.Text, Parts: parts}))
}

func (g graph) need(cell int) {
	if cell < 0 || cell >= len(g.Cells) {
		guard.Fail(api.ErrRange)
	}
}

// part returns where a part of a cell is, so that it can be read or written there.
func (g graph) part(cell, i int) *int {
	parts := g.Cells[cell].Parts
	if i < 0 || i >= len(parts) {
		guard.Fail(api.ErrRange)
	}
	return &parts[i]
}

func (g graph) copied() graph {
	g.Cells = slices.Clone(g.Cells)
	for i := range len(g.Cells) {
		g.Cells[i].Parts = slices.Clone(g.Cells[i].Parts)
	}
	return g
}

// reached yields the cells to which paths lead from some cells, each once, as they are met: a cell before its parts, the parts from the first one on.
func (g graph) reached(from ...int) iter.Seq[int] {
	return func(yield func(int) bool) {
		met := make([]bool, len(g.Cells))
		var visit func(cells []int) bool
		visit = func(cells []int) bool {
			for _, c := range cells {
				if met[c] {
					continue
				}
				met[c] = true
				if !yield(c) || !visit(g.Cells[c].Parts) {
					return false
				}
			}
			return true
		}
		visit(from)
	}
}

// choice has reached cells of some sort; of asks for each of them.
type choice struct {
	of func(cell int) bool
}

func (x choice) from(g graph) []int {
	var out []int
	for c := range g.reached(g.Root) {
		if x.of(c) {
			out = append(out, c)
		}
	}
	slices.Sort(out)
	return out
}

func (g graph) reach() []int  { return slices.Sorted(g.reached(g.Root)) }
func (g graph) cyclic() []int { return choice{of: g.isCyclic}.from(g) }
func (g graph) shared() []int { return choice{of: g.isShared}.from(g) }

func (g graph) isCyclic(cell int) bool {
	for c := range g.reached(g.Cells[cell].Parts...) {
		if c == cell {
			return true
		}
	}
	return false
}

func (g graph) isShared(cell int) bool {
	names := 0
	if cell == g.Root {
		names = 1
	}
search:
	for c := range g.reached(g.Root) {
		for _, p := range g.Cells[c].Parts {
			if p == cell {
				names++
			}
			if names > 1 {
				break search
			}
		}
	}
	return names > 1
}
