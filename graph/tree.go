package graph

import (
	"slices"

	"caracole/api"
	"caracole/guard"
)

// planter makes cells of data.
type planter struct{ cells []api.Cell }

// plant adds the cells of a datum, and returns the number of its own one.
func (p *planter) plant(d api.Datum) int {
	at := len(p.cells)
	p.cells = append(p.cells, api.Cell{Kind: d.Kind, Num: d.Num, Text: d.Text})
	var parts []int
	for _, x := range d.Parts {
		parts = append(parts, p.plant(x))
	}
	p.cells[at].Parts = parts
	return at
}

// sizes returns how many pieces the unfolding of each cell to a depth has; it counts no further than to one more than a datum may have.
func (g graph) sizes(depth int) []int {
	sizes := slices.Repeat([]int{1}, len(g.Cells))
	for range depth {
		deeper := slices.Repeat([]int{1}, len(g.Cells))
		for c, cell := range g.Cells {
			for _, p := range cell.Parts {
				deeper[c] = min(deeper[c]+sizes[p], api.DatumSize+1)
			}
		}
		sizes = deeper
	}
	return sizes
}

// unfolding returns the unfolding of the root, and fails if this is too large, before it is made.
func (g graph) unfolding(depth int) api.Datum {
	if g.sizes(depth)[g.Root] > api.DatumSize {
		guard.Fail(api.ErrLarge)
	}
	return g.unfold(g.Root, depth)
}

func (g graph) unfold(cell, depth int) api.Datum {
	if depth == 0 {
		return api.Datum{Kind: api.Sym, Text: "?"}
	}
	c := g.Cells[cell]
	out := api.Datum{Kind: c.Kind, Num: c.Num, Text: c.Text}
	for _, p := range c.Parts {
		out.Parts = append(out.Parts, g.unfold(p, depth-1))
	}
	return out
}
