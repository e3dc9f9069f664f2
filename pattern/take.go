package pattern

import (
	"maps"

	"caracole/api"
	"caracole/plain"
	"caracole/side"
)

// found is what variables stand for, by their names. It consists of parts of the datum that matches.
type found map[string]api.Datum

// Binds returns what variables of a pattern stand for in a datum that fits: parts of it, and lists of these.
func Binds(p Pattern, vars []api.MatchVar, d api.Datum) []api.MatchBind {
	all := take(p, d)
	return plain.Each(vars, func(v api.MatchVar) api.MatchBind {
		return api.MatchBind{Name: v.Name, Depth: v.Depth, Value: all[v.Name]}
	})
}

// take returns what the variables of a pattern stand for in a datum that fits.
func take(p Pattern, d api.Datum) found {
	switch p := p.(type) {
	case variable:
		return found{p.Text: d}
	case vector:
		return p.take(d.Parts)
	case list:
		l, rest := p.elements(d)
		return join(p.take(l), take(p.behind, rest))
	}
	return nil
}

// elements returns the elements of a datum that those of a list match, and what is left behind them.
func (p list) elements(d api.Datum) (l []api.Datum, rest api.Datum) {
	if p.middle.part != nil {
		return plain.Elements(d)
	}
	for range p.front {
		l = append(l, d.Parts[0])
		d = d.Parts[1]
	}
	return l, d
}

func (s sequence) take(l []api.Datum) found {
	n, m := len(s.front), len(l)-len(s.back)
	var all []found
	for i, p := range s.front {
		all = append(all, take(p, l[i]))
	}
	for i, p := range s.back {
		all = append(all, take(p, l[m+i]))
	}
	return join(append(all, s.middle.take(l[n:m]))...)
}

// take returns the lists of what variables stand for in each repetition.
func (r repetition) take(l []api.Datum) found {
	if v, ok := r.part.(variable); ok {
		return found{v.Text: plain.List(api.Datum{}, l...)}
	}
	each := side.BySide(l, func(d api.Datum) found { return take(r.part, d) })
	out := found{}
	for _, name := range r.names {
		values := plain.Each(each, func(f found) api.Datum { return f[name] })
		out[name] = plain.List(api.Datum{}, values...)
	}
	return out
}

// join returns all that was found in several parts of a pattern, which have no variable in common.
func join(all ...found) found {
	out := found{}
	for _, f := range all {
		maps.Copy(out, f)
	}
	return out
}
