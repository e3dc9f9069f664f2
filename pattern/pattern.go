// Package pattern has patterns of data at work, for all layers that match them: which data fit, and what variables stand for then. Patterns are taken as they are, so whoever calls has checked them.
package pattern

import (
	"iter"
	"slices"

	"caracole/api"
	"caracole/plain"
)

// Pattern is a pattern at work. There is a type for each sort.
type Pattern interface {
	// Fits says whether a datum matches.
	Fits(d api.Datum) bool
}

type (
	literal struct {
		api.Datum
		same func(p, d api.Datum) bool
	}
	variable struct{ api.Datum }
	vector   struct {
		api.Datum
		sequence
	}
	list struct {
		api.Datum
		sequence
		behind Pattern
	}
)

// sequence is the elements of a list, or the parts of a vector, at work: those in front of the one that is repeated, this one, and those behind it.
type sequence struct {
	front  []Pattern
	middle repetition
	back   []Pattern
}

// repetition is a part that is repeated, and the names of its variables. Without a part nothing is.
type repetition struct {
	part  Pattern
	names []string
}

// Of returns a pattern at work. The function same says whether a datum is what a piece that is no variable, list or vector stands for.
func Of(p api.Datum, same func(p, d api.Datum) bool) Pattern { return maker{same}.of(p) }

type maker struct {
	same func(p, d api.Datum) bool
}

func (m maker) of(d api.Datum) Pattern {
	switch SortOf(d) {
	case Variable:
		return variable{d}
	case Vector:
		return vector{Datum: d, sequence: m.sequence(d.Parts)}
	case List:
		l, tail := plain.Elements(d)
		return list{Datum: d, sequence: m.sequence(l), behind: m.of(tail)}
	}
	return literal{Datum: d, same: m.same}
}

func (m maker) sequence(l []api.Datum) sequence {
	at := slices.IndexFunc(l, IsEtc)
	if at < 0 {
		return sequence{front: plain.Each(l, m.of)}
	}
	part := m.of(l[at-1])
	return sequence{
		front:  plain.Each(l[:at-1], m.of),
		middle: repetition{part: part, names: names(part)},
		back:   plain.Each(l[at+1:], m.of),
	}
}

// names returns the names of the variables of a pattern.
func names(p Pattern) []string {
	switch p := p.(type) {
	case variable:
		return []string{p.Text}
	case vector:
		return p.names()
	case list:
		return append(p.names(), names(p.behind)...)
	}
	return nil
}

func (s sequence) names() []string {
	all := slices.Clone(s.middle.names)
	for _, p := range slices.Concat(s.front, s.back) {
		all = append(all, names(p)...)
	}
	return all
}

func (p literal) Fits(d api.Datum) bool  { return p.same(p.Datum, d) }
func (p variable) Fits(d api.Datum) bool { return true }

func (p vector) Fits(d api.Datum) bool {
	n := len(p.front)
	return d.Kind == p.Kind && len(d.Parts) >= n && slices.EqualFunc(p.front, d.Parts[:n], Pattern.Fits) && p.ends(len(d.Parts)-n, slices.Values(d.Parts[n:]))
}

func (p list) Fits(d api.Datum) bool {
	for _, x := range p.front {
		if d.Kind != p.Kind || !x.Fits(d.Parts[0]) {
			return false
		}
		d = d.Parts[1]
	}
	if p.middle.part == nil {
		return p.behind.Fits(d) // where other elements may be left
	}
	n, tail := length(d)
	return p.behind.Fits(tail) && p.ends(n, along(d))
}

// length returns how many elements a datum has, and what is behind them. It makes no list of them, since sweeps ask it of each rest of a list.
func length(d api.Datum) (n int, tail api.Datum) {
	at := &d
	for at.Kind == api.Pair {
		n++
		at = &at.Parts[1]
	}
	return n, *at
}

// along yields the elements of a datum.
func along(d api.Datum) iter.Seq[api.Datum] {
	return func(yield func(api.Datum) bool) {
		at := &d
		for at.Kind == api.Pair && yield(at.Parts[0]) {
			at = &at.Parts[1]
		}
	}
}

// ends says whether n elements that come behind the front match the rest: the last ones the back, and all others the middle.
func (s sequence) ends(n int, l iter.Seq[api.Datum]) bool {
	many := n - len(s.back)
	if many < 0 || many > 0 && s.middle.part == nil {
		return false
	}
	i := -many
	for d := range l {
		p := s.middle.part
		if i >= 0 {
			p = s.back[i]
		}
		if !p.Fits(d) {
			return false
		}
		i++
	}
	return true
}
