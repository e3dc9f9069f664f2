package term

import (
	"caracole/api"
	"caracole/datum"
	"caracole/guard"
	"caracole/plain"
)

// writer makes data of valid terms. It fails as soon as there are too many pieces, since these could be far more than any datum may have.
type writer struct{ pieces int }

func (w *writer) add(pieces int) {
	w.pieces += pieces
	if w.pieces > api.DatumSize {
		guard.Fail(api.ErrLarge)
	}
}

// term returns the datum that is read as a term.
func (w *writer) term(t api.Term) api.Datum {
	switch t.Op {
	case api.Quote:
		return w.quote(t.Data)
	case api.Var:
		return w.symbol(t.Name)
	}
	front := w.front(&t)
	return w.list(behind(front, plain.Each(t.Args, w.term)...)...)
}

func (w *writer) quote(d api.Datum) api.Datum {
	switch d.Kind {
	case api.Sym, api.Pair, api.Vec:
		return w.list(w.symbol(forms[api.Quote]), w.data(d))
	}
	return w.data(d)
}

// front returns what stands in front of the arguments.
func (w *writer) front(t *api.Term) []api.Datum {
	switch t.Op {
	case api.App:
		return nil
	case api.Prim:
		return []api.Datum{w.symbol(t.Name)}
	}
	word := []api.Datum{w.symbol(forms[t.Op])}
	switch n := atWork(t).(type) {
	case local:
		return behind(word, w.symbol(n.Name))
	case function:
		return behind(word, w.symbols(n.Names))
	case recursive:
		return behind(word, w.symbol(n.Name), w.symbols(n.Names))
	}
	return word
}

func (w *writer) symbol(s string) api.Datum {
	w.add(1)
	return api.Datum{Kind: api.Sym, Text: s}
}

func (w *writer) symbols(l []string) api.Datum { return w.list(plain.Each(l, w.symbol)...) }

func (w *writer) list(l ...api.Datum) api.Datum {
	w.add(len(l) + 1)
	return plain.List(api.Datum{}, l...)
}

func (w *writer) data(d api.Datum) api.Datum {
	pieces, _, e := datum.Size(d)
	guard.Check(e)
	w.add(pieces)
	return plain.Copy(d)
}

// behind returns a list with more data behind it, and leaves the memory behind it alone.
func behind(l []api.Datum, more ...api.Datum) []api.Datum { return append(l[:len(l):len(l)], more...) }
