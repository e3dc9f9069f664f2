package sample

import (
	"slices"

	"caracole/api"
)

// words are the words of the forms, by the Op of what they are read as.
func words() []string {
	return []string{"quote", "", "fn", "", "if", "let", "rec", "", "apply", "handle", "signal", "mark", "marks", "emit"}
}

// Unary and Binary are the operations that take one datum, and two.
func Unary() []string {
	return []string{"car", "cdr", "not", "pair?", "null?", "num?", "sym?", "str?", "bool?", "vec?", "fn?", "fail", "chars", "string", "name", "symbol", "vector", "items"}
}

func Binary() []string { return []string{"+", "-", "*", "quo", "rem", "<", "eq", "cons"} }

func Quote(d api.Datum) api.Term { return api.Term{Op: api.Quote, Data: d} }

func Var(name string) api.Term { return api.Term{Op: api.Var, Name: name} }

// Term is the valid term with a text, written apart from package term.
func Term(text string) api.Term { return termOf(Read(text)) }

func Terms(texts ...string) []api.Term {
	var l []api.Term
	for _, t := range texts {
		l = append(l, Term(t))
	}
	return l
}

func termOf(d api.Datum) api.Term {
	if d.Kind == api.Sym {
		return Var(d.Text)
	}
	if d.Kind != api.Pair {
		return Quote(d)
	}
	l := elements(d)
	op, front := api.App, 0
	word := d.Parts[0].Text
	switch {
	case d.Parts[0].Kind != api.Sym:
	case slices.Contains(Unary(), word) || slices.Contains(Binary(), word):
		op, front = api.Prim, 1
	case slices.Contains(words(), word):
		op, front = slices.Index(words(), word), 1
	}
	t := api.Term{Op: op}
	switch op {
	case api.Quote:
		return Quote(l[1])
	case api.Prim:
		t.Name = word
	case api.Let:
		t.Name, front = l[1].Text, 2
	case api.Fn:
		t.Names, front = texts(l[1]), 2
	case api.Rec:
		t.Name, t.Names, front = l[1].Text, texts(l[2]), 3
	}
	for _, x := range l[front:] {
		t.Args = append(t.Args, termOf(x))
	}
	return t
}

func elements(d api.Datum) []api.Datum {
	var l []api.Datum
	for ; d.Kind == api.Pair; d = d.Parts[1] {
		l = append(l, d.Parts[0])
	}
	return l
}

func texts(d api.Datum) []string {
	var l []string
	for _, x := range elements(d) {
		l = append(l, x.Text)
	}
	return l
}

// TermData is a term as data, written apart from package term. Terms with no Op that there is are the symbol ??.
func TermData(t api.Term) api.Datum {
	var l []api.Datum
	switch t.Op {
	case api.Quote:
		if d := t.Data; d.Kind == api.Sym || len(d.Parts) > 0 || d.Kind == api.Vec {
			return List(api.Datum{}, Sym("quote"), d)
		}
		return t.Data
	case api.Var:
		return Sym(t.Name)
	case api.App:
	case api.Prim:
		l = append(l, Sym(t.Name))
	case api.Let:
		l = append(l, Sym("let"), Sym(t.Name))
	case api.Fn:
		l = append(l, Sym("fn"), symbols(t.Names))
	case api.Rec:
		l = append(l, Sym("rec"), Sym(t.Name), symbols(t.Names))
	default:
		if t.Op < 0 || t.Op >= len(words()) {
			return Sym("??")
		}
		l = append(l, Sym(words()[t.Op]))
	}
	for _, a := range t.Args {
		l = append(l, TermData(a))
	}
	return List(api.Datum{}, l...)
}

func symbols(names []string) api.Datum {
	var l []api.Datum
	for _, n := range names {
		l = append(l, Sym(n))
	}
	return List(api.Datum{}, l...)
}

// TermText is what Term reads.
func TermText(t api.Term) string { return Show(TermData(t)) }

// CopyTerm is a term that shares no memory with t.
func CopyTerm(t api.Term) api.Term {
	out := api.Term{Op: t.Op, Name: t.Name, Names: slices.Clone(t.Names), Data: Copy(t.Data)}
	for _, a := range t.Args {
		out.Args = append(out.Args, CopyTerm(a))
	}
	return out
}

// Renamed is a term with longer names for all of its own.
func Renamed(t api.Term) api.Term {
	t = CopyTerm(t)
	if t.Op != api.Prim && t.Name != "" {
		t.Name = "q" + t.Name
	}
	for i := range t.Names {
		t.Names[i] = "q" + t.Names[i]
	}
	for i := range t.Args {
		t.Args[i] = Renamed(t.Args[i])
	}
	return t
}

// SameTerm is equality of terms in all fields, written apart from the layers.
func SameTerm(a, b api.Term) bool {
	return a.Op == b.Op && a.Name == b.Name && slices.Equal(a.Names, b.Names) && Same(a.Data, b.Data) && slices.EqualFunc(a.Args, b.Args, SameTerm)
}

// TermPaths are the paths of all terms in a term, in their order.
func TermPaths(t api.Term) [][]int {
	out := [][]int{{}}
	for i, a := range t.Args {
		for _, path := range TermPaths(a) {
			out = append(out, append([]int{i}, path...))
		}
	}
	return out
}

// FollowTerm is the term at a path that leads to one.
func FollowTerm(t api.Term, path []int) api.Term {
	for _, i := range path {
		t = t.Args[i]
	}
	return t
}

// Name is one of a few names, so that the same ones are often bound and free; some are those that are given to bound names.
func (r *Random) Name() string {
	return []string{"x", "y", "z", "f", "x1", "y1", "x2", "v1", "v2"}[r.Below(9)]
}

// Names are up to most different ones.
func (r *Random) Names(most int) []string {
	var l []string
	for range r.Below(most + 1) {
		if n := r.Name(); !slices.Contains(l, n) {
			l = append(l, n)
		}
	}
	return l
}

// Term has terms in one another up to a depth.
func (r *Random) Term(depth int) api.Term {
	n := r.Below(16)
	if depth == 0 || n < 4 {
		if n%4 == 0 {
			return Quote(r.Datum(1))
		}
		return Var(r.Name())
	}
	t := api.Term{Op: api.App}
	args := 1 + r.Below(4)
	switch n {
	case 4, 5, 6:
		t.Op, t.Names, args = api.Fn, r.Names(3), 1
	case 7, 8:
		t.Op, t.Name, args = api.Let, r.Name(), 2
	case 9, 10:
		t.Op, t.Name, args = api.Rec, r.Name(), 1
		t.Names = slices.DeleteFunc(r.Names(3), func(n string) bool { return n == t.Name })
	case 11:
		t.Op, t.Name, args = api.Prim, Unary()[r.Below(len(Unary()))], 1
	case 12:
		t.Op, t.Name, args = api.Prim, Binary()[r.Below(len(Binary()))], 2
	case 13:
		t.Op = []int{api.If, api.Apply, api.Handle, api.Signal, api.Mark, api.Marks, api.Emit}[r.Below(7)]
		args = []int{api.If: 3, api.Apply: 2, api.Handle: 2, api.Signal: 1, api.Mark: 2, api.Emit: 1}[t.Op]
	}
	for range args {
		t.Args = append(t.Args, r.Term(depth-1))
	}
	return t
}
