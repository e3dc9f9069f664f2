package match

import (
	"iter"
	"slices"
	"strings"

	"caracole/api"
	"caracole/datum"
	"caracole/guard"
	"caracole/plain"
)

// etc says of the part in front of it that it is repeated.
const etc = "etc"

// sort is a sort of pieces of patterns and templates.
type sort int

const (
	literal  sort = iota // stands for itself
	variable             // stands for any datum
	ellipsis             // stands for nothing, but says etc
	vector               // has parts
	list                 // has elements, and something behind them
)

// sortOf returns the sort of a piece, which is a valid datum.
func sortOf(d api.Datum) sort {
	switch d.Kind {
	case api.Sym:
		return sortOfSymbol(d.Text)
	case api.Vec:
		return vector
	case api.Pair:
		return list
	}
	return literal
}

func sortOfSymbol(s string) sort {
	switch {
	case s == etc:
		return ellipsis
	case len(s) > 1 && s[0] == '?':
		return variable
	}
	return literal
}

func isEtc(d api.Datum) bool { return sortOf(d) == ellipsis }

// isRepeated says whether an element has an etc behind it.
func isRepeated(l []api.Datum, i int) bool {
	return i+1 < len(l) && isEtc(l[i+1]) && !isEtc(l[i])
}

// piece is a piece of a pattern, or of a template.
type piece struct {
	api.Datum
	inside   int  // of how many repeated parts it is inside, one that it is itself counted
	repeated bool // whether it is a repeated part
	alone    bool // whether it is where pieces stand by themselves, and so no etc can be
}

// pieces yields each piece of a pattern, or of a template, before its parts: of a list its elements, and what is behind them.
func pieces(d api.Datum) iter.Seq[piece] {
	return func(yield func(piece) bool) { visit(piece{Datum: d, alone: true}, yield) }
}

func visit(p piece, yield func(piece) bool) bool {
	if !yield(p) {
		return false
	}
	for _, x := range p.parts() {
		if !visit(x, yield) {
			return false
		}
	}
	return true
}

// elements returns the elements of a list, or the parts of a vector.
func elements(d api.Datum) []api.Datum {
	if sortOf(d) == list {
		l, _ := plain.Elements(d)
		return l
	}
	return d.Parts
}

// parts returns the pieces of which one consists.
func (p piece) parts() []piece {
	var out, behind []piece
	switch sortOf(p.Datum) {
	case list:
		_, tail := plain.Elements(p.Datum)
		behind = []piece{{Datum: tail, inside: p.inside, alone: true}}
		fallthrough
	case vector:
		l := elements(p.Datum)
		for i := range len(l) {
			out = append(out, p.element(l, i))
		}
	}
	return append(out, behind...)
}

func (p piece) element(l []api.Datum, i int) piece {
	x := piece{Datum: l[i], inside: p.inside, repeated: isRepeated(l, i), alone: i == 0 || isEtc(l[i-1])}
	if x.repeated {
		x.inside++
	}
	return x
}

func (p piece) isLoneEtc() bool { return p.alone && isEtc(p.Datum) }

func (p piece) name() string { return p.Text }

func (p piece) variable() api.MatchVar { return api.MatchVar{Name: p.Text, Depth: p.inside} }

// variables yields the pieces that are variables, as often as they occur.
func variables(d api.Datum) iter.Seq[piece] {
	return func(yield func(piece) bool) {
		for p := range pieces(d) {
			if sortOf(p.Datum) == variable && !yield(p) {
				return
			}
		}
	}
}

// vars returns the variables of a pattern, ascending by bytes.
func vars(p api.Datum) []api.MatchVar {
	return plain.Each(ascending(variables(p), piece.name), piece.variable)
}

// ascending returns what comes, sorted by names.
func ascending[T any](all iter.Seq[T], name func(T) string) []T {
	return slices.SortedFunc(all, func(a, b T) int { return strings.Compare(name(a), name(b)) })
}

// own returns a datum that shares no memory with others, and fails if it has too many pieces.
func own(d api.Datum) api.Datum { return guard.Get(datum.At(d, nil)) }
