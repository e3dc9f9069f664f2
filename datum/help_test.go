package datum_test

import (
	"math/rand/v2"
	"slices"
	"strconv"
	"strings"
	"testing"

	"caracole/api"
)

func num(n int) api.Datum { return api.Datum{Kind: api.Num, Num: n} }

func sym(s string) api.Datum { return api.Datum{Kind: api.Sym, Text: s} }

func str(s string) api.Datum { return api.Datum{Kind: api.Str, Text: s} }

func flag(n int) api.Datum { return api.Datum{Kind: api.Bool, Num: n} }

func pair(a, b api.Datum) api.Datum { return api.Datum{Kind: api.Pair, Parts: []api.Datum{a, b}} }

func vec(l ...api.Datum) api.Datum { return api.Datum{Kind: api.Vec, Parts: l} }

// list has its elements, and tail behind them.
func list(tail api.Datum, l ...api.Datum) api.Datum {
	for _, x := range slices.Backward(l) {
		tail = pair(x, tail)
	}
	return tail
}

// wide is a vector of n zeros, which has n + 1 pieces.
func wide(n int) api.Datum { return vec(slices.Repeat([]api.Datum{num(0)}, n)...) }

// deep is a vector in a vector and so on, which has n pieces and the depth n.
func deep(n int) api.Datum {
	d := vec()
	for range n - 1 {
		d = vec(d)
	}
	return d
}

// zeros is a list of n zeros, which has 2n + 1 pieces.
func zeros(n int) api.Datum { return list(api.Datum{}, slices.Repeat([]api.Datum{num(0)}, n)...) }

// show is the text of a datum as in chapter 3, so that a test can say what it expects. Data of no kind are shown as ??.
func show(d api.Datum) string {
	switch d.Kind {
	case api.Nil:
		return "()"
	case api.Bool:
		return []string{"#f", "#t"}[d.Num]
	case api.Num:
		return strconv.Itoa(d.Num)
	case api.Sym:
		return d.Text
	case api.Str:
		return strconv.Quote(d.Text)
	case api.Vec:
		return "#(" + showAll(d.Parts) + ")"
	case api.Pair:
		var l []api.Datum
		for d.Kind == api.Pair {
			l, d = append(l, d.Parts[0]), d.Parts[1]
		}
		if d.Kind == api.Nil {
			return "(" + showAll(l) + ")"
		}
		return "(" + showAll(l) + " . " + show(d) + ")"
	}
	return "??"
}

func showAll(l []api.Datum) string {
	var words []string
	for _, d := range l {
		words = append(words, show(d))
	}
	return strings.Join(words, " ")
}

// read is the datum with a text as show makes it; strings have no spaces and brackets.
func read(text string) api.Datum {
	text = strings.NewReplacer("#(", " #( ", "(", " ( ", ")", " ) ", "# (", "#(").Replace(text)
	words := strings.Fields(text)
	d := readOne(&words)
	if len(words) > 0 {
		panic("more than one datum: " + text)
	}
	return d
}

func readOne(words *[]string) api.Datum {
	w := (*words)[0]
	*words = (*words)[1:]
	switch {
	case w == "#" || w == "#(":
		if w == "#" {
			*words = (*words)[1:]
		}
		l, _ := readRest(words)
		return vec(l...)
	case w == "(":
		l, tail := readRest(words)
		return list(tail, l...)
	case w == "#f" || w == "#t":
		return flag(strings.Index("ft", w[1:]))
	case w[0] == '"':
		return str(w[1 : len(w)-1])
	}
	if n, err := strconv.Atoi(w); err == nil {
		return num(n)
	}
	return sym(w)
}

func readRest(words *[]string) (l []api.Datum, tail api.Datum) {
	for (*words)[0] != ")" {
		if (*words)[0] == "." {
			*words = (*words)[1:]
			tail = readOne(words)
			continue
		}
		l = append(l, readOne(words))
	}
	*words = (*words)[1:]
	return l, tail
}

func readAll(texts ...string) []api.Datum {
	var l []api.Datum
	for _, t := range texts {
		l = append(l, read(t))
	}
	return l
}

func TestReadShow(t *testing.T) {
	for _, text := range []string{"()", "#f", "#t", "-5", "a-b", `"s"`, "(1 . 2)", "(1 (a #(2 #()) . b) ())", "#(#(1) (2))"} {
		if got := show(read(text)); got != text {
			t.Error(text, got)
		}
	}
}

// same is equality of data, written apart from the package. A nil slice and an empty one mean the same.
func same(a, b api.Datum) bool {
	return a.Kind == b.Kind && a.Num == b.Num && a.Text == b.Text && slices.EqualFunc(a.Parts, b.Parts, same)
}

// random makes data of a few different leaves, so that equal parts are frequent. Its source is made of a fixed seed.
type random struct{ *rand.Rand }

func newRandom(seed uint64) random { return random{rand.New(rand.NewPCG(seed, 1))} }

func (r random) datum(depth int) api.Datum {
	n := r.IntN(10)
	if depth == 0 {
		n = r.IntN(5)
	}
	switch n {
	case 0:
		return api.Datum{}
	case 1:
		return flag(r.IntN(2))
	case 2:
		return num(r.IntN(3) - 1)
	case 3:
		return sym([]string{"a", "ab", "b"}[r.IntN(3)])
	case 4:
		return str([]string{"", "a", "b"}[r.IntN(3)])
	case 5, 6:
		return pair(r.datum(depth-1), r.datum(depth-1))
	case 7:
		return r.list(depth)
	}
	d := vec()
	for range r.IntN(4) {
		d.Parts = append(d.Parts, r.datum(depth-1))
	}
	return d
}

func (r random) list(depth int) api.Datum {
	var l []api.Datum
	for range r.IntN(5) {
		l = append(l, r.datum(depth-1))
	}
	return list(api.Datum{}, l...)
}

// part is some part of a datum, or sometimes a datum of its own.
func (r random) part(d api.Datum) api.Datum {
	switch paths := allPaths(d); {
	case r.IntN(4) == 0:
		return r.datum(2)
	default:
		return follow(d, paths[r.IntN(len(paths))])
	}
}

// allPaths are the paths of all pieces, in their order.
func allPaths(d api.Datum) [][]int {
	out := [][]int{{}}
	for i, p := range d.Parts {
		for _, path := range allPaths(p) {
			out = append(out, append([]int{i}, path...))
		}
	}
	return out
}

func follow(d api.Datum, path []int) api.Datum {
	for _, i := range path {
		d = d.Parts[i]
	}
	return d
}

func samePaths(a, b [][]int) bool { return slices.EqualFunc(a, b, slices.Equal) }
