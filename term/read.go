package term

import (
	"caracole/api"
	"caracole/guard"
	"caracole/plain"
)

// reader makes terms of valid data.
type reader struct{ vocabulary }

// form is how a list with some Op is read: read takes the elements in front of the arguments.
type form struct {
	front int // how many these are
	read  func(t *api.Term, front []api.Datum)
}

func (r reader) form(op int) form {
	f := form{front: 1, read: r.word}
	switch op {
	case api.App:
		f.front = 0
	case api.Quote:
		f = form{front: 2, read: r.quoted}
	case api.Let:
		f = form{front: 2, read: r.named}
	case api.Rec:
		f.front++
		fallthrough
	case api.Fn:
		f.front++
		f.read = r.function
	}
	return f
}

// term returns what a datum is read as.
func (r reader) term(d api.Datum) api.Term {
	switch d.Kind {
	case api.Sym:
		return api.Term{Op: api.Var, Name: r.name(d)}
	case api.Pair:
		return r.list(elements(d))
	case api.Vec:
		guard.Fail(api.ErrForm)
	}
	return api.Term{Op: api.Quote, Data: plain.Copy(d)}
}

func (r reader) list(l []api.Datum) api.Term {
	t := api.Term{Op: r.op(l[0])}
	f := r.form(t.Op)
	argumentsOf(t.Op, l[0].Text).need(len(l) - f.front)
	f.read(&t, l[:f.front])
	t.Args = plain.Each(l[f.front:], r.term)
	return t
}

// word reads a form that begins with its word alone, which is its name if it is an operation.
func (r reader) word(t *api.Term, front []api.Datum) {
	if t.Op == api.Prim {
		t.Name = front[0].Text
	}
}

func (r reader) quoted(t *api.Term, front []api.Datum) { t.Data = plain.Copy(front[1]) }

func (r reader) named(t *api.Term, front []api.Datum) { t.Name = r.name(front[1]) }

// function reads fn and rec. The latter has a name in front of its parameters.
func (r reader) function(t *api.Term, front []api.Datum) {
	if t.Op == api.Rec {
		r.named(t, front)
	}
	params := elements(front[len(front)-1])
	upTo(api.FnParams).need(len(params))
	for _, p := range params {
		name := r.name(p)
		differ(name, t.Name, t.Names)
		t.Names = append(t.Names, name)
	}
}

// name returns the name that a datum is.
func (r reader) name(d api.Datum) string {
	if d.Kind != api.Sym {
		guard.Fail(api.ErrForm)
	}
	r.need(d.Text)
	return d.Text
}

// elements returns the elements of a list as they stand in it, and fails if a datum is none.
func elements(d api.Datum) []api.Datum {
	l, tail := plain.Elements(d)
	if tail.Kind != api.Nil {
		guard.Fail(api.ErrForm)
	}
	return l
}
