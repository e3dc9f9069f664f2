package sample

import (
	"slices"
	"strconv"
	"strings"

	"caracole/api"
)

// kinds are the words for the kinds of cells.
func kinds() []string { return []string{"Nil", "Bool", "Num", "Sym", "Str", "Pair", "Vec"} }

// ParseGraph is the graph with a text: its cells, each behind a comma, and in front of all the root and a semicolon, unless it is 0. For example: 2; Pair 1 0, Num 1, Str a.
func ParseGraph(text string) api.Graph {
	var g api.Graph
	if root, cells, ok := strings.Cut(text, ";"); ok {
		g.Root, text = number(strings.TrimSpace(root)), cells
	}
	for _, cell := range strings.Split(text, ",") {
		words := strings.Fields(cell)
		c := api.Cell{Kind: slices.Index(kinds(), words[0])}
		words = words[1:]
		switch c.Kind {
		case api.Bool, api.Num:
			c.Num = number(words[0])
		case api.Sym, api.Str:
			c.Text = strings.Join(words, " ")
		default:
			for _, w := range words {
				c.Parts = append(c.Parts, number(w))
			}
		}
		g.Cells = append(g.Cells, c)
	}
	return g
}

func number(word string) int {
	n, err := strconv.Atoi(word)
	if err != nil {
		panic(word)
	}
	return n
}

// GraphText is what ParseGraph reads. Cells of no kind are ??.
func GraphText(g api.Graph) string {
	var cells []string
	for _, c := range g.Cells {
		words := []string{"??"}
		if c.Kind >= 0 && c.Kind < len(kinds()) {
			words[0] = kinds()[c.Kind]
		}
		if c.Kind == api.Bool || c.Kind == api.Num || c.Num != 0 {
			words = append(words, strconv.Itoa(c.Num))
		}
		if c.Text != "" {
			words = append(words, c.Text)
		}
		for _, p := range c.Parts {
			words = append(words, strconv.Itoa(p))
		}
		cells = append(cells, strings.Join(words, " "))
	}
	out := strings.Join(cells, ", ")
	if g.Root != 0 {
		out = strconv.Itoa(g.Root) + "; " + out
	}
	return out
}

// The graphs of the examples of chapter 2.

func GraphC() api.Graph { return ParseGraph("Pair 1 0, Num 1") }
func GraphB() api.Graph { return ParseGraph("Pair 1 2, Num 1, Pair 1 0") }
func GraphT() api.Graph { return ParseGraph("Pair 1 2, Num 1, Pair 3 4, Num 1, Nil") }

// Graph has up to most cells, which name any others: cycles, shared parts, and cells that are the same or not reached are frequent.
func (r *Random) Graph(most int) api.Graph {
	n := 1 + r.Below(most)
	g := api.Graph{Root: r.Below(n)}
	for range n {
		g.Cells = append(g.Cells, r.cell(n, 0))
	}
	return g
}

// noCycle is such a graph in which cells name only later ones.
func (r *Random) noCycle(most int) api.Graph {
	n := 1 + r.Below(most)
	g := api.Graph{Root: r.Below(n) / 2}
	for i := range n {
		g.Cells = append(g.Cells, r.cell(n-i-1, i+1))
	}
	return g
}

// cell has parts from first on, of which there are some.
func (r *Random) cell(some, first int) api.Cell {
	parts := func(n int) []int {
		var l []int
		for range n {
			l = append(l, first+r.Below(some))
		}
		return l
	}
	switch n := r.Below(10); {
	case some == 0 || n < 3:
		d := r.Leaf()
		return api.Cell{Kind: d.Kind, Num: d.Num, Text: d.Text}
	case n < 7:
		return api.Cell{Kind: api.Pair, Parts: parts(2)}
	}
	return api.Cell{Kind: api.Vec, Parts: parts(r.Below(4))}
}

// Graphs are many graphs of all these sorts.
func Graphs(seed uint64, n int) []api.Graph {
	r := NewRandom(seed)
	var l []api.Graph
	for range n {
		l = append(l, r.Graph(4), r.Graph(9), r.noCycle(6), r.noCycle(12), r.Spread(r.Graph(5)))
	}
	return l
}

// Spread has some cells of a graph several times: it is the same as the graph.
func (r *Random) Spread(g api.Graph) api.Graph {
	n := len(g.Cells)
	copies := 2 + r.Below(3)
	var out api.Graph
	for range copies {
		for _, c := range g.Cells {
			var parts []int
			for _, p := range c.Parts {
				parts = append(parts, p+n*r.Below(copies))
			}
			c.Parts = parts
			out.Cells = append(out.Cells, c)
		}
	}
	out.Root = g.Root + n*r.Below(copies)
	return out
}
