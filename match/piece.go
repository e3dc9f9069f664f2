package match

import (
	"iter"
	"slices"
	"strings"

	"caracole/api"
	"caracole/datum"
	"caracole/guard"
	"caracole/pattern"
	"caracole/plain"
)

// isRepeated says whether an element has an etc behind it.
func isRepeated(l []api.Datum, i int) bool {
	return i+1 < len(l) && pattern.IsEtc(l[i+1]) && !pattern.IsEtc(l[i])
}

// piece is a piece of a pattern, or of a template.
type piece struct {
	api.Datum
	inside   int  // of how many repeated parts it is inside, one that it is itself counted
	repeated bool // whether it is a repeated part
	alone    bool // whether it is where pieces stand by themselves, and so no etc can be
}

// pieces yields each piece of a pattern, or of a template, before its parts: of a list its elements, and what is behind them.
func pieces(d api.Datum) iter.Seq[piece] {
	return func(yield func(piece) bool) { visit(piece{Datum: d, alone: true}, yield) }
}

func visit(p piece, yield func(piece) bool) bool {
	if !yield(p) {
		return false
	}
	for _, x := range p.parts() {
		if !visit(x, yield) {
			return false
		}
	}
	return true
}

// elements returns the elements of a list, or the parts of a vector.
func elements(d api.Datum) []api.Datum {
	if pattern.SortOf(d) == pattern.List {
		l, _ := plain.Elements(d)
		return l
	}
	return d.Parts
}

// parts returns the pieces of which one consists.
func (p piece) parts() []piece {
	var out, behind []piece
	switch pattern.SortOf(p.Datum) {
	case pattern.List:
		_, tail := plain.Elements(p.Datum)
		behind = []piece{{Datum: tail, inside: p.inside, alone: true}}
		fallthrough
	case pattern.Vector:
		l := elements(p.Datum)
		for i := range len(l) {
			out = append(out, p.element(l, i))
		}
	}
	return append(out, behind...)
}

func (p piece) element(l []api.Datum, i int) piece {
	x := piece{Datum: l[i], inside: p.inside, repeated: isRepeated(l, i), alone: i == 0 || pattern.IsEtc(l[i-1])}
	if x.repeated {
		x.inside++
	}
	return x
}

func (p piece) isLoneEtc() bool { return p.alone && pattern.IsEtc(p.Datum) }

func (p piece) name() string { return p.Text }

func (p piece) variable() api.MatchVar { return api.MatchVar{Name: p.Text, Depth: p.inside} }

// variables yields the pieces that are variables, as often as they occur.
func variables(d api.Datum) iter.Seq[piece] {
	return func(yield func(piece) bool) {
		for p := range pieces(d) {
			if pattern.SortOf(p.Datum) == pattern.Variable && !yield(p) {
				return
			}
		}
	}
}

// vars returns the variables of a pattern, ascending by bytes.
func vars(p api.Datum) []api.MatchVar {
	return plain.Each(ascending(variables(p), piece.name), piece.variable)
}

// ascending returns what comes, sorted by names.
func ascending[T any](all iter.Seq[T], name func(T) string) []T {
	return slices.SortedFunc(all, func(a, b T) int { return strings.Compare(name(a), name(b)) })
}

// own returns a datum that shares no memory with others, and fails if it has too many pieces.
func own(d api.Datum) api.Datum { return guard.Get(datum.At(d, nil)) }

// atWork returns a pattern at work. What stands for itself matches what is equal.
func atWork(p api.Datum) pattern.Pattern { return pattern.Of(p, plain.Equal) }

// bindsOf returns what the variables of a pattern stand for, and fails if the datum does not match.
func bindsOf(p pattern.Pattern, vars []api.MatchVar, d api.Datum) []api.MatchBind {
	if !p.Fits(d) {
		guard.Fail(api.ErrNone)
	}
	return plain.Each(pattern.Binds(p, vars, d), ownBind)
}

func ownBind(b api.MatchBind) api.MatchBind {
	b.Value = own(b.Value)
	return b
}
