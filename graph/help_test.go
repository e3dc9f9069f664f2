package graph_test

import (
	"slices"
	"strconv"
	"strings"
	"testing"

	"caracole/api"
	"caracole/sample"
)

var (
	same, read, show = sample.Same, sample.Read, sample.Show
	kinds            = []string{"Nil", "Bool", "Num", "Sym", "Str", "Pair", "Vec"}
)

// parse is the graph with a text: its cells, each behind a comma, and in front of all the root and a semicolon, unless it is 0. For example: 2; Pair 1 0, Num 1, Str a.
func parse(text string) api.Graph {
	var g api.Graph
	if root, cells, ok := strings.Cut(text, ";"); ok {
		g.Root, text = number(strings.TrimSpace(root)), cells
	}
	for _, cell := range strings.Split(text, ",") {
		words := strings.Fields(cell)
		c := api.Cell{Kind: slices.Index(kinds, words[0])}
		words = words[1:]
		switch c.Kind {
		case api.Bool, api.Num:
			c.Num = number(words[0])
		case api.Sym, api.Str:
			c.Text = strings.Join(words, " ")
		default:
			for _, w := range words {
				c.Parts = append(c.Parts, number(w))
			}
		}
		g.Cells = append(g.Cells, c)
	}
	return g
}

func number(word string) int {
	n, err := strconv.Atoi(word)
	if err != nil {
		panic(word)
	}
	return n
}

// text is what parse reads. Cells of no kind are ??.
func text(g api.Graph) string {
	var cells []string
	for _, c := range g.Cells {
		words := []string{"??"}
		if c.Kind >= 0 && c.Kind < len(kinds) {
			words[0] = kinds[c.Kind]
		}
		if c.Kind == api.Bool || c.Kind == api.Num || c.Num != 0 {
			words = append(words, strconv.Itoa(c.Num))
		}
		if c.Text != "" {
			words = append(words, c.Text)
		}
		for _, p := range c.Parts {
			words = append(words, strconv.Itoa(p))
		}
		cells = append(cells, strings.Join(words, " "))
	}
	out := strings.Join(cells, ", ")
	if g.Root != 0 {
		out = strconv.Itoa(g.Root) + "; " + out
	}
	return out
}

func TestParseText(t *testing.T) {
	for _, x := range []string{"Nil", "Pair 1 0, Num 1", "2; Bool 0, Num -5, Sym ab, Str a, Vec, Vec 0 1 2, Pair 3 3"} {
		if got := text(parse(x)); got != x {
			t.Error(x, got)
		}
	}
}

// The graphs of the examples.
func exampleC() api.Graph { return parse("Pair 1 0, Num 1") }
func exampleB() api.Graph { return parse("Pair 1 2, Num 1, Pair 1 0") }
func exampleT() api.Graph { return parse("Pair 1 2, Num 1, Pair 3 4, Num 1, Nil") }

// doubling has n cells: n - 1 pairs of the next one, and a leaf. It unfolds to 2 to the n, less 1, pieces.
func doubling(n int, leaf api.Cell) api.Graph {
	var g api.Graph
	for i := range n - 1 {
		g.Cells = append(g.Cells, api.Cell{Kind: api.Pair, Parts: []int{i + 1, i + 1}})
	}
	g.Cells = append(g.Cells, leaf)
	return g
}

// wide is a vector of n times the number 0.
func wide(n int) api.Graph {
	return api.Graph{Cells: []api.Cell{{Kind: api.Vec, Parts: slices.Repeat([]int{1}, n)}, {Kind: api.Num}}}
}

// ring has cells that name the next one, the last one the first one; the marked one has another number of parts.
func ring(n, marked int) api.Graph {
	var g api.Graph
	for i := range n {
		c := api.Cell{Kind: api.Vec, Parts: []int{(i + 1) % n}}
		if i == marked {
			c.Parts = append(c.Parts, c.Parts[0])
		}
		g.Cells = append(g.Cells, c)
	}
	return g
}

// anyGraph has up to most cells, which name any others: cycles, shared parts, and cells that are the same or not reached are frequent.
func anyGraph(r *sample.Random, most int) api.Graph {
	n := 1 + r.Below(most)
	g := api.Graph{Root: r.Below(n)}
	for range n {
		g.Cells = append(g.Cells, cell(r, n, 0))
	}
	return g
}

// noCycle is such a graph in which cells name only later ones.
func noCycle(r *sample.Random, most int) api.Graph {
	n := 1 + r.Below(most)
	g := api.Graph{Root: r.Below(n) / 2}
	for i := range n {
		g.Cells = append(g.Cells, cell(r, n-i-1, i+1))
	}
	return g
}

// cell has parts from first on, of which there are some.
func cell(r *sample.Random, some, first int) api.Cell {
	parts := func(n int) []int {
		var l []int
		for range n {
			l = append(l, first+r.Below(some))
		}
		return l
	}
	switch n := r.Below(10); {
	case some == 0 || n < 3:
		d := r.Leaf()
		return api.Cell{Kind: d.Kind, Num: d.Num, Text: d.Text}
	case n < 7:
		return api.Cell{Kind: api.Pair, Parts: parts(2)}
	}
	return api.Cell{Kind: api.Vec, Parts: parts(r.Below(4))}
}

// graphs are many graphs of all these sorts.
func graphs(seed uint64, n int) []api.Graph {
	r := sample.NewRandom(seed)
	var l []api.Graph
	for range n {
		l = append(l, anyGraph(r, 4), anyGraph(r, 9), noCycle(r, 6), noCycle(r, 12), spread(r, anyGraph(r, 5)))
	}
	return l
}

// spread has some cells of a graph several times: it is the same as the graph.
func spread(r *sample.Random, g api.Graph) api.Graph {
	n := len(g.Cells)
	copies := 2 + r.Below(3)
	var out api.Graph
	for range copies {
		for _, c := range g.Cells {
			var parts []int
			for _, p := range c.Parts {
				parts = append(parts, p+n*r.Below(copies))
			}
			c.Parts = parts
			out.Cells = append(out.Cells, c)
		}
	}
	out.Root = g.Root + n*r.Below(copies)
	return out
}

// leads says from which cell a path that is not empty leads to which.
func leads(g api.Graph) [][]bool {
	n := len(g.Cells)
	way := make([][]bool, n)
	for i, c := range g.Cells {
		way[i] = make([]bool, n)
		for _, p := range c.Parts {
			way[i][p] = true
		}
	}
	for k := range n {
		for i := range n {
			for j := range n {
				way[i][j] = way[i][j] || way[i][k] && way[k][j]
			}
		}
	}
	return way
}

// unfolded is the unfolding of a cell, as the chapter says it.
func unfolded(g api.Graph, cell, depth int) api.Datum {
	if depth == 0 {
		return sample.Sym("?")
	}
	c := g.Cells[cell]
	d := api.Datum{Kind: c.Kind, Num: c.Num, Text: c.Text}
	for _, p := range c.Parts {
		d.Parts = append(d.Parts, unfolded(g, p, depth-1))
	}
	return d
}

// firstDepth is the least depth to which unfoldings of two cells differ, or -1 if it is beyond the number of all cells.
func firstDepth(g api.Graph, a int, h api.Graph, b int) int {
	equal := func(i, k int) bool { return true }
	for depth := range len(g.Cells) + len(h.Cells) + 1 {
		if !equal(a, b) {
			return depth
		}
		table := map[[2]int]bool{}
		for i, x := range g.Cells {
			for k, y := range h.Cells {
				table[[2]int{i, k}] = x.Kind == y.Kind && x.Num == y.Num && x.Text == y.Text && slices.EqualFunc(x.Parts, y.Parts, equal)
			}
		}
		equal = func(i, k int) bool { return table[[2]int{i, k}] }
	}
	return -1
}
