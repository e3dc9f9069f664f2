package print_test

import (
	"slices"
	"strconv"
	"strings"

	"caracole/api"
	"caracole/sample"
)

var (
	num, sym, str, flag = sample.Num, sample.Sym, sample.Str, sample.Bool
	pair, vec, list     = sample.Pair, sample.Vec, sample.List
	same, plain         = sample.Same, sample.Show
	parse, graphText    = sample.ParseGraph, sample.GraphText
)

func nothing() api.Datum { return api.Datum{} }

func quoted(d api.Datum) api.Datum { return list(nothing(), sym("quote"), d) }

// exampleD is the datum of the examples.
func exampleD() api.Datum {
	return list(nothing(), sym("a"), num(1), list(nothing(), sym("b"), str("s")))
}

func sameAll(a, b []api.Datum) bool { return slices.EqualFunc(a, b, same) }

// anyDatum is a datum by chance in which lists with quote, points, and strings that have to be written with a \ are frequent.
func anyDatum(r *sample.Random, depth int) api.Datum {
	switch n := r.Below(12); {
	case depth == 0 || n < 4:
		return anyLeaf(r)
	case n < 6:
		return quoted(anyDatum(r, depth-1))
	case n == 6:
		return pair(sym("quote"), anyDatum(r, depth-1))
	case n == 7:
		return vec(someData(r, depth)...)
	case n == 8:
		l := append(someData(r, depth), sym("quote"))
		return list(anyLeaf(r), l...)
	case n == 9:
		return list(anyDatum(r, depth-1), someData(r, depth)...)
	}
	return list(nothing(), someData(r, depth)...)
}

func someData(r *sample.Random, depth int) []api.Datum {
	var l []api.Datum
	for range r.Below(5) {
		l = append(l, anyDatum(r, depth-1))
	}
	return l
}

func anyLeaf(r *sample.Random) api.Datum {
	switch r.Below(4) {
	case 0:
		return str([]string{`"`, `\`, ` ;`, `a"b\c`, `\"`, `)`, `'`, `~`}[r.Below(8)])
	case 1:
		return sym([]string{"quote", "+5", "-", "--1", "?x", "a-1", "=", "t"}[r.Below(8)])
	case 2:
		return num([]int{0, -1, 10, api.NumMost, -api.NumMost}[r.Below(5)])
	}
	return r.Leaf()
}

// data are many of them.
func data(seed uint64, n int) []api.Datum {
	r := sample.NewRandom(seed)
	var l []api.Datum
	for i := range n {
		l = append(l, anyDatum(r, i%5))
	}
	return l
}

// flat is the text of a datum in one line, as the chapter says it, written apart from package print.
func flat(d api.Datum) string {
	switch {
	case d.Kind == api.Str:
		return strconv.Quote(d.Text)
	case len(d.Parts) == 0:
		return plain(d)
	case d.Kind == api.Vec:
		return "#(" + flatAll(d.Parts) + ")"
	case isQuoted(d):
		return "'" + flat(d.Parts[1].Parts[0])
	}
	l, tail := unlist(d)
	if tail.Kind == api.Nil {
		return "(" + flatAll(l) + ")"
	}
	return "(" + flatAll(l) + " . " + flat(tail) + ")"
}

func flatAll(l []api.Datum) string {
	var texts []string
	for _, d := range l {
		texts = append(texts, flat(d))
	}
	return strings.Join(texts, " ")
}

func isQuoted(d api.Datum) bool {
	return same(d.Parts[0], sym("quote")) && d.Parts[1].Kind == api.Pair && d.Parts[1].Parts[1].Kind == api.Nil
}

func unlist(d api.Datum) (l []api.Datum, tail api.Datum) {
	for d.Kind == api.Pair {
		l, d = append(l, d.Parts[0]), d.Parts[1]
	}
	return l, d
}

// laidOut is the text of a datum that begins in a column, in lines, as the chapter says it, written apart from package print.
func laidOut(d api.Datum, column, width int) string {
	text := flat(d)
	if len(d.Parts) == 0 || column+len(text) <= width {
		return text
	}
	if d.Kind == api.Pair && isQuoted(d) {
		return "'" + laidOut(d.Parts[1].Parts[0], column+1, width)
	}
	front, l, tail := "#(", d.Parts, nothing()
	if d.Kind == api.Pair {
		front = "("
		l, tail = unlist(d)
	}
	column += len(front)
	var lines []string
	for _, x := range l {
		lines = append(lines, laidOut(x, column, width))
	}
	if tail.Kind != api.Nil {
		lines = append(lines, ". "+laidOut(tail, column+2, width))
	}
	return front + strings.Join(lines, "\n"+strings.Repeat(" ", column)) + ")"
}

// faults are data that are not valid, with their errors.
func faults() map[api.Errno]api.Datum {
	return map[api.Errno]api.Datum{
		api.ErrKind:  vec(num(1), api.Datum{Kind: api.Vec + 1, Num: 1, Parts: []api.Datum{num(1)}}),
		api.ErrForm:  api.Datum{Kind: api.Pair, Parts: []api.Datum{num(1)}},
		api.ErrValue: num(api.NumMost + 1),
		api.ErrName:  sym("1"),
		api.ErrLarge: sample.Wide(api.DatumSize),
	}
}
