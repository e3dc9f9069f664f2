package match

import (
	"iter"
	"maps"
	"slices"

	"caracole/api"
	"caracole/guard"
	"caracole/plain"
	"caracole/side"
)

// pattern is a pattern at work. There is a type for each sort.
type pattern interface {
	// fits says whether a datum matches.
	fits(d api.Datum) bool
}

type (
	literalPattern  struct{ api.Datum }
	variablePattern struct{ api.Datum }
	vectorPattern   struct {
		api.Datum
		sequence
	}
	listPattern struct {
		api.Datum
		sequence
		behind pattern
	}
)

// sequence is the elements of a list, or the parts of a vector, at work: those in front of the one that is repeated, this one, and those behind it.
type sequence struct {
	front  []pattern
	middle repetition
	back   []pattern
}

// repetition is a part that is repeated, and its variables. Without a part nothing is.
type repetition struct {
	part pattern
	vars []api.MatchVar
}

func atWork(d api.Datum) pattern {
	switch sortOf(d) {
	case variable:
		return variablePattern{d}
	case vector:
		return vectorPattern{Datum: d, sequence: sequenceOf(d.Parts)}
	case list:
		l, tail := plain.Elements(d)
		return listPattern{Datum: d, sequence: sequenceOf(l), behind: atWork(tail)}
	}
	return literalPattern{d}
}

func sequenceOf(l []api.Datum) sequence {
	at := slices.IndexFunc(l, isEtc)
	if at < 0 {
		return sequence{front: plain.Each(l, atWork)}
	}
	part := l[at-1]
	return sequence{
		front:  plain.Each(l[:at-1], atWork),
		middle: repetition{part: atWork(part), vars: vars(part)},
		back:   plain.Each(l[at+1:], atWork),
	}
}

func (p literalPattern) fits(d api.Datum) bool  { return plain.Equal(p.Datum, d) }
func (p variablePattern) fits(d api.Datum) bool { return true }

func (p vectorPattern) fits(d api.Datum) bool {
	n := len(p.front)
	return d.Kind == p.Kind && len(d.Parts) >= n && slices.EqualFunc(p.front, d.Parts[:n], pattern.fits) && p.ends(len(d.Parts)-n, slices.Values(d.Parts[n:]))
}

func (p listPattern) fits(d api.Datum) bool {
	for _, x := range p.front {
		if d.Kind != p.Kind || !x.fits(d.Parts[0]) {
			return false
		}
		d = d.Parts[1]
	}
	if p.middle.part == nil {
		return p.behind.fits(d) // where other elements may be left
	}
	n, tail := length(d)
	return p.behind.fits(tail) && p.ends(n, along(d))
}

// length returns how many elements a datum has, and what is behind them. It makes no list of them, since sweeps ask it of each rest of a list.
func length(d api.Datum) (n int, tail api.Datum) {
	at := &d
	for at.Kind == api.Pair {
		n++
		at = &at.Parts[1]
	}
	return n, *at
}

// along yields the elements of a datum.
func along(d api.Datum) iter.Seq[api.Datum] {
	return func(yield func(api.Datum) bool) {
		at := &d
		for at.Kind == api.Pair && yield(at.Parts[0]) {
			at = &at.Parts[1]
		}
	}
}

// ends says whether n elements that come behind the front match the rest: the last ones the back, and all others the middle.
func (s sequence) ends(n int, l iter.Seq[api.Datum]) bool {
	many := n - len(s.back)
	if many < 0 || many > 0 && s.middle.part == nil {
		return false
	}
	i := -many
	for d := range l {
		p := s.middle.part
		if i >= 0 {
			p = s.back[i]
		}
		if !p.fits(d) {
			return false
		}
		i++
	}
	return true
}

// found is what variables stand for, by their names. It consists of parts of the datum that matches.
type found map[string]api.Datum

// match returns what the variables of a pattern stand for, and fails if the datum does not match.
func match(p pattern, vars []api.MatchVar, d api.Datum) []api.MatchBind {
	if !p.fits(d) {
		guard.Fail(api.ErrNone)
	}
	all := take(p, d)
	return plain.Each(vars, func(v api.MatchVar) api.MatchBind {
		return api.MatchBind{Name: v.Name, Depth: v.Depth, Value: own(all[v.Name])}
	})
}

// take returns what the variables of a pattern stand for in a datum that matches it.
func take(p pattern, d api.Datum) found {
	switch p := p.(type) {
	case variablePattern:
		return found{p.Text: d}
	case vectorPattern:
		return p.take(d.Parts)
	case listPattern:
		l, rest := p.elements(d)
		return join(p.take(l), take(p.behind, rest))
	}
	return nil
}

// elements returns the elements of a datum that those of a list match, and what is left behind them.
func (p listPattern) elements(d api.Datum) (l []api.Datum, rest api.Datum) {
	if p.middle.part != nil {
		return plain.Elements(d)
	}
	for range p.front {
		l = append(l, d.Parts[0])
		d = d.Parts[1]
	}
	return l, d
}

func (s sequence) take(l []api.Datum) found {
	n, m := len(s.front), len(l)-len(s.back)
	var all []found
	for i, p := range s.front {
		all = append(all, take(p, l[i]))
	}
	for i, p := range s.back {
		all = append(all, take(p, l[m+i]))
	}
	return join(append(all, s.middle.take(l[n:m]))...)
}

// take returns the lists of what variables stand for in each repetition.
func (r repetition) take(l []api.Datum) found {
	if v, ok := r.part.(variablePattern); ok {
		return found{v.Text: plain.List(api.Datum{}, l...)}
	}
	each := side.BySide(l, func(d api.Datum) found { return take(r.part, d) })
	out := found{}
	for _, v := range r.vars {
		values := plain.Each(each, func(f found) api.Datum { return f[v.Name] })
		out[v.Name] = plain.List(api.Datum{}, values...)
	}
	return out
}

// join returns all that was found in several parts of a pattern, which have no variable in common.
func join(all ...found) found {
	out := found{}
	for _, f := range all {
		maps.Copy(out, f)
	}
	return out
}
