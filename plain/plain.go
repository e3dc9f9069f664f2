// Package plain has what all layers do with plain values: copies, equality, and lists. Values are taken as they are, so whoever calls has checked them.
package plain

import (
	"slices"

	"caracole/api"
)

// Each returns what is made of the elements of a list, in their order, and no slice at all if there are none.
func Each[T, R any](l []T, do func(T) R) []R {
	if len(l) == 0 {
		return nil
	}
	out := make([]R, len(l))
	for i := range len(l) {
		out[i] = do(l[i])
	}
	return out
}

// Copy makes a datum that shares no memory with d.
func Copy(d api.Datum) api.Datum {
	return api.Datum{Kind: d.Kind, Num: d.Num, Text: d.Text, Parts: Each(d.Parts, Copy)}
}

// CopyTerm makes a term that shares no memory with t.
func CopyTerm(t api.Term) api.Term {
	return api.Term{Op: t.Op, Name: t.Name, Names: slices.Clone(t.Names), Data: Copy(t.Data), Args: Each(t.Args, CopyTerm)}
}

// Pieces returns of how many pieces a datum consists.
func Pieces(d api.Datum) int {
	n := 1
	for i := range len(d.Parts) {
		n += Pieces(d.Parts[i])
	}
	return n
}

// atom is what a datum is but for its parts.
type atom struct {
	kind, num int
	text      string
}

func atomOf(d api.Datum) atom { return atom{kind: d.Kind, num: d.Num, text: d.Text} }

// Equal says whether two data are equal. A nil slice and an empty one mean the same.
func Equal(a, b api.Datum) bool {
	return atomOf(a) == atomOf(b) && slices.EqualFunc(a.Parts, b.Parts, Equal)
}

// EqualTerms says whether two terms are equal, their bound names among all else.
func EqualTerms(a, b api.Term) bool {
	return a.Op == b.Op && a.Name == b.Name && slices.Equal(a.Names, b.Names) && Equal(a.Data, b.Data) && slices.EqualFunc(a.Args, b.Args, EqualTerms)
}

// List makes pairs of the elements, with tail behind them. It consists of the very data that it is given.
func List(tail api.Datum, l ...api.Datum) api.Datum {
	for _, x := range slices.Backward(l) {
		tail = api.Datum{Kind: api.Pair, Parts: []api.Datum{x, tail}}
	}
	return tail
}

// Elements returns the elements of a datum as they stand in it, and what is behind them, which is Nil in a list.
func Elements(d api.Datum) (l []api.Datum, tail api.Datum) {
next:
	if d.Kind == api.Pair {
		l = append(l, d.Parts[0])
		d = d.Parts[1]
		goto next
	}
	return l, d
}
