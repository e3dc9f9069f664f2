package expand

import (
	"caracole/api"
	"caracole/guard"
	"caracole/plain"
	"caracole/term"
)

// reference returns the term of a symbol.
func (x *expander) reference(name string) api.Term {
	s := x.symbol(name)
	if isWord(s.text) {
		guard.Fail(api.ErrName)
	}
	t := api.Term{Op: api.Var, Name: s.text}
	switch m := x.stands(s).(type) {
	case variable:
		t.Name = m.name
	case *macro:
		guard.Fail(api.ErrName)
	}
	return t
}

// macroOf returns the macro for which the first element of a list stands, if it does.
func (x *expander) macroOf(first api.Datum) (m *macro, ok bool) {
	if first.Kind == api.Sym {
		m, ok = x.stands(x.symbol(first.Text)).(*macro)
	}
	return m, ok
}

// form is how a list is read that is no use: how many elements are in front of those that are read as terms, and what completes the term of them, and returns what this binds in its last argument.
type form struct {
	front    int
	complete func(t *api.Term, l []api.Datum) []bond
}

func (x *expander) form(first api.Datum) form {
	f := form{complete: x.nothing}
	if first.Kind != api.Sym || !isWord(first.Text) {
		return f
	}
	f.front++
	switch first.Text {
	case "quote":
		f.complete = x.quoted
	case "rec":
		f.front++
		fallthrough
	case "fn", "let":
		f.front++
		f.complete = x.bound
	}
	return f
}

func (x *expander) nothing(*api.Term, []api.Datum) []bond { return nil }

func (x *expander) quoted(t *api.Term, l []api.Datum) []bond {
	t.Data = renamed(l[1], x.text)
	return nil
}

func (x *expander) bound(t *api.Term, _ []api.Datum) []bond {
	var bonds []bond
	if t.Name != "" {
		bonds = append(bonds, x.variable(&t.Name))
	}
	for i := range len(t.Names) {
		bonds = append(bonds, x.variable(&t.Names[i]))
	}
	return bonds
}

// variable gives a name of its own to what a form binds.
func (x *expander) variable(name *string) bond {
	s := x.symbol(*name)
	*name = x.unused()
	return bond{symbol: s, meaning: variable{*name}}
}

// list reads a list that is no use, and returns the tasks for what is read as terms in it.
func (x *expander) list(t task, l []api.Datum) []task {
	if l[0].Kind == api.Sym && l[0].Text == macroWord {
		b := x.define(l)
		return []task{{Datum: l[3], into: t.into, bonds: []bond{b}}}
	}
	f := x.form(l[0])
	into := x.put(outline(l, f.front), t.into)
	bonds := f.complete(into, l)
	parts := make([]task, len(into.Args))
	for i, d := range l[len(l)-len(parts):] {
		parts[i] = task{Datum: d, into: &into.Args[i]}
	}
	if n := len(parts); n > 0 {
		parts[n-1].bonds = bonds
	}
	return parts
}

// outline returns the term of a list with () for each datum in it that is read as a term: so it is layer 4 that says what is in order.
func outline(l []api.Datum, front int) api.Term {
	known := plain.Each(l[:min(front, len(l))], wordsOfCore)
	blanks := make([]api.Datum, max(len(l)-front, 0))
	return guard.Get(term.OfDatum(plain.List(api.Datum{}, behind(known, blanks...)...)))
}

// wordsOfCore returns a datum with a word that layer 4 knows in the place of the one that it does not know.
func wordsOfCore(d api.Datum) api.Datum {
	return renamed(d, func(name string) string {
		if name == macroWord {
			return "quote"
		}
		return name
	})
}

// behind returns a list with more behind it, and leaves the memory behind it alone.
func behind(l []api.Datum, more ...api.Datum) []api.Datum { return append(l[:len(l):len(l)], more...) }
