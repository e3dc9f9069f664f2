// Package sample has what the tests of several layers need: data by their texts, and data by chance that is the same each time. No layer uses it.
package sample

import (
	"slices"

	"caracole/api"
)

func Num(n int) api.Datum { return api.Datum{Kind: api.Num, Num: n} }

func Sym(s string) api.Datum { return api.Datum{Kind: api.Sym, Text: s} }

func Str(s string) api.Datum { return api.Datum{Kind: api.Str, Text: s} }

func Bool(n int) api.Datum { return api.Datum{Kind: api.Bool, Num: n} }

// Pair, Vec and List consist of the very data that they are given: so tests can make data of which parts share memory.
func Pair(a, b api.Datum) api.Datum { return api.Datum{Kind: api.Pair, Parts: []api.Datum{a, b}} }

func Vec(l ...api.Datum) api.Datum { return api.Datum{Kind: api.Vec, Parts: l} }

// List has its elements, and tail behind them.
func List(tail api.Datum, l ...api.Datum) api.Datum {
	for _, x := range slices.Backward(l) {
		tail = Pair(x, tail)
	}
	return tail
}

// Wide is a vector of n zeros, which has n + 1 pieces.
func Wide(n int) api.Datum { return Vec(slices.Repeat([]api.Datum{Num(0)}, n)...) }

// Deep is a vector in a vector and so on, which has n pieces and the depth n.
func Deep(n int) api.Datum {
	d := Vec()
	for range n - 1 {
		d = Vec(d)
	}
	return d
}

// Zeros is a list of n zeros, which has 2n + 1 pieces.
func Zeros(n int) api.Datum { return List(api.Datum{}, slices.Repeat([]api.Datum{Num(0)}, n)...) }

// Copy is a datum that shares no memory with d.
func Copy(d api.Datum) api.Datum {
	out := api.Datum{Kind: d.Kind, Num: d.Num, Text: d.Text}
	for _, p := range d.Parts {
		out.Parts = append(out.Parts, Copy(p))
	}
	return out
}

// Same is equality of data, written apart from package datum. A nil slice and an empty one mean the same.
func Same(a, b api.Datum) bool {
	return a.Kind == b.Kind && a.Num == b.Num && a.Text == b.Text && slices.EqualFunc(a.Parts, b.Parts, Same)
}

// Paths are the paths of all pieces, in their order.
func Paths(d api.Datum) [][]int {
	out := [][]int{{}}
	for i, p := range d.Parts {
		for _, path := range Paths(p) {
			out = append(out, append([]int{i}, path...))
		}
	}
	return out
}

// Follow is the part at a path that leads to one.
func Follow(d api.Datum, path []int) api.Datum {
	for _, i := range path {
		d = d.Parts[i]
	}
	return d
}
