package match

import (
	"caracole/api"
	"caracole/guard"
	"caracole/pattern"
	"caracole/plain"
)

// builder makes a datum of a pattern, or of a template. What it does with variables, and with repeated parts, are methods of whoever builds.
type builder struct {
	variable func(v api.Datum) api.Datum
	repeated func(part api.Datum) []api.Datum
}

func (b builder) build(d api.Datum) api.Datum {
	switch pattern.SortOf(d) {
	case pattern.Variable:
		return b.variable(d)
	case pattern.Vector:
		return api.Datum{Kind: api.Vec, Parts: b.elements(d.Parts)}
	case pattern.List:
		l, tail := plain.Elements(d)
		l = b.elements(l)
		return plain.List(b.build(tail), l...)
	}
	return d
}

func (b builder) elements(l []api.Datum) []api.Datum {
	var out []api.Datum
	for i, x := range l {
		switch {
		case isRepeated(l, i):
			out = append(out, b.repeated(x)...)
		case !pattern.IsEtc(x):
			out = append(out, b.build(x))
		}
	}
	return out
}

// example returns a pattern with () for each variable, and without its repeated parts.
func example(p api.Datum) api.Datum {
	nothing := func(api.Datum) api.Datum { return api.Datum{} }
	none := func(api.Datum) []api.Datum { return nil }
	return builder{variable: nothing, repeated: none}.build(p)
}

// renamer changes a pattern but for the name of a variable.
type renamer struct {
	builder
	old, new string
}

// rename returns a pattern with another name for a variable.
func rename(p api.Datum, old, new string) api.Datum {
	if !IsVar(old) || !IsVar(new) {
		guard.Fail(api.ErrName)
	}
	met := map[string]bool{}
	for v := range variables(p) {
		met[v.Text] = true
	}
	switch {
	case !met[old]:
		guard.Fail(api.ErrNone)
	case met[new]:
		guard.Fail(api.ErrTwice)
	}
	r := renamer{old: old, new: new}
	r.builder = builder{variable: r.name, repeated: r.keep}
	return r.build(p)
}

func (r *renamer) name(v api.Datum) api.Datum {
	if v.Text == r.old {
		v.Text = r.new
	}
	return v
}

func (r *renamer) keep(part api.Datum) []api.Datum {
	return []api.Datum{r.build(part), {Kind: api.Sym, Text: pattern.Etc}}
}

// filler fills a template. What a variable stands for is known by its name and the depth that is left of it, so that a repetition is known beside the list that it is an element of.
type filler struct {
	builder
	depths
	known  map[api.MatchVar]api.Datum
	inside int // of how many repeated parts the piece is that is being filled
}

// fill returns a template with what its variables stand for.
func fill(t api.Datum, l []api.MatchBind) api.Datum {
	f := filler{depths: depths{}, known: map[api.MatchVar]api.Datum{}}
	f.builder = builder{variable: f.value, repeated: f.repeat}
	for _, b := range l {
		f.depths[b.Name] = b.Depth
		f.known[api.MatchVar{Name: b.Name, Depth: b.Depth}] = b.Value
	}
	f.checkNames(t)
	return own(f.build(t))
}

// here returns a variable with the depth that is left of it.
func (f *filler) here(name string) api.MatchVar {
	return api.MatchVar{Name: name, Depth: max(f.depths[name]-f.inside, 0)}
}

func (f *filler) value(v api.Datum) api.Datum {
	d, ok := f.known[api.MatchVar{Name: v.Text}]
	if !ok {
		guard.Fail(api.ErrKind)
	}
	return d
}

// repeat fills a repeated part for each repetition.
func (f *filler) repeat(part api.Datum) []api.Datum {
	lists := map[api.MatchVar][]api.Datum{}
	for p := range variables(part) {
		if v := f.here(p.Text); v.Depth > 0 {
			lists[v], _ = plain.Elements(f.known[v])
		}
	}
	f.inside++
	var out []api.Datum
	for i := range times(lists) {
		for v, l := range lists {
			f.known[f.here(v.Name)] = l[i]
		}
		out = append(out, f.build(part))
	}
	for v := range lists {
		delete(f.known, f.here(v.Name))
	}
	f.inside--
	return out
}

// times returns how many elements lists have, and fails unless all have as many.
func times(lists map[api.MatchVar][]api.Datum) int {
	if len(lists) == 0 {
		guard.Fail(api.ErrNone)
	}
	least, most := api.DatumSize, 0
	for _, l := range lists {
		least, most = min(least, len(l)), max(most, len(l))
	}
	if least != most {
		guard.Fail(api.ErrClash)
	}
	return most
}
