package graph

import (
	"slices"

	"caracole/api"
)

// number returns the number of a thing. Things are numbered from 0 on as they are met.
func number[K comparable](known map[K]int, thing K) int {
	n, ok := known[thing]
	if !ok {
		n = len(known)
		known[thing] = n
	}
	return n
}

// look is what can be seen of a cell alone.
type look struct {
	kind, num int
	text      string
	parts     int
}

func lookOf(c api.Cell) look {
	return look{kind: c.Kind, num: c.Num, text: c.Text, parts: len(c.Parts)}
}

// division has cells in classes: two of them are in one class if their unfoldings to some depth are equal.
type division struct {
	class   numbers // of each cell
	classes int
}

// numbers has a number for each cell.
type numbers []int

func (n numbers) of(cell int) int { return n[cell] }

// link is a key for what stands in a row: the number of what comes before it, and numbers of what comes next.
type link [16]int

// finer returns the division for one depth more: in it cells are together if they look alike, and their parts, one by one, were together before.
func (g graph) finer(d division) division {
	looks := map[look]int{}
	rows := map[link]int{}
	met := map[int]int{}
	out := division{class: make(numbers, len(g.Cells))}
	for c, cell := range g.Cells {
		// A row begins with a look, which says how many parts come behind it: so no row is mistaken for another one.
		row := number(rows, link{-1, number(looks, lookOf(cell))})
		for parts := range slices.Chunk(cell.Parts, len(link{})-1) {
			next := link{row}
			for i, p := range parts {
				next[i+1] = d.class[p]
			}
			row = number(rows, next)
		}
		out.class[c] = number(met, row)
	}
	out.classes = len(met)
	return out
}

// divide returns the first division that has two cells apart, and its depth; if they are the same, the last one, which has together just those cells that are the same.
func (g graph) divide(a, b int) (division, int) {
	d, depth := division{class: make(numbers, len(g.Cells)), classes: 1}, 0
round:
	if d.class[a] != d.class[b] {
		return d, depth
	}
	next := g.finer(d)
	if next.classes > d.classes {
		d = next
		depth++
		goto round
	}
	return d, depth
}

// shift is how far numbers of cells are moved.
type shift int

func (s shift) of(cell int) int { return cell + int(s) }

// renaming gives cells other numbers.
type renaming struct {
	of func(cell int) int
}

// cells returns copies of cells whose parts have the new numbers.
func (r renaming) cells(old []api.Cell) []api.Cell {
	out := slices.Clone(old)
	for i, c := range old {
		out[i].Parts = slices.Clone(c.Parts)
		for k, p := range c.Parts {
			out[i].Parts[k] = r.of(p)
		}
	}
	return out
}

// differ returns whether two graphs differ, and the least depth to which their unfoldings do.
func (g graph) differ(h graph) (depth int, differ bool) {
	n := len(g.Cells)
	moved := renaming{of: shift(n).of}.cells(h.Cells)
	// Behind three indices the cells of the caller stay as they are.
	both := graph{api.Graph{Cells: append(g.Cells[:n:n], moved...)}}
	a, b := g.Root, n+h.Root
	d, depth := both.divide(a, b)
	return depth, d.class[a] != d.class[b]
}

// least returns the graph that has the classes of the reached cells that are the same as cells.
func (g graph) least() api.Graph {
	d, _ := g.divide(g.Root, g.Root)
	merged := graph{api.Graph{Cells: make([]api.Cell, d.classes), Root: d.class[g.Root]}}
	for c, cell := range (renaming{of: d.class.of}).cells(g.Cells) {
		merged.Cells[d.class[c]] = cell
	}
	return merged.inOrder()
}

// inOrder returns the graph of the reached cells, numbered as they are met. A cell is met in the graph as it is: where several cells are the same, they have to be merged before.
func (g graph) inOrder() api.Graph {
	place := make(numbers, len(g.Cells))
	var met []api.Cell
	for c := range g.reached(g.Root) {
		place[c] = len(met)
		met = append(met, g.Cells[c])
	}
	return api.Graph{Cells: renaming{of: place.of}.cells(met), Root: place[g.Root]}
}
