package sample

import "caracole/api"

// Memory is the places in memory where slices begin that belong to something. Its methods note more of them, and say whether all of these were new: so a test finds memory that is shared.
type Memory map[any]bool

func note[T any](m Memory, l []T) bool {
	if cap(l) == 0 {
		return true
	}
	first := &l[:1][0]
	known := m[first]
	m[first] = true
	return !known
}

func (m Memory) Data(all ...api.Datum) bool {
	apart := true
	for _, d := range all {
		apart = note(m, d.Parts) && apart
		apart = m.Data(d.Parts...) && apart
	}
	return apart
}

func (m Memory) Terms(all ...api.Term) bool {
	apart := true
	for _, t := range all {
		apart = note(m, t.Names) && apart
		apart = note(m, t.Args) && apart
		apart = m.Data(t.Data) && apart
		apart = m.Terms(t.Args...) && apart
	}
	return apart
}

// TermList notes a list, and the terms in it.
func (m Memory) TermList(l []api.Term) bool {
	apart := note(m, l)
	return m.Terms(l...) && apart
}

// DataList notes a list, and the data in it.
func (m Memory) DataList(l []api.Datum) bool {
	apart := note(m, l)
	return m.Data(l...) && apart
}

func (m Memory) Numbers(l []int) bool { return note(m, l) }

func (m Memory) Names(l []string) bool { return note(m, l) }

// Hollow is a datum with empty slices in the place of nil ones, which have memory behind them.
func Hollow(d api.Datum) api.Datum {
	parts := make([]api.Datum, 0, len(d.Parts)+1)
	for _, p := range d.Parts {
		parts = append(parts, Hollow(p))
	}
	d.Parts = parts
	return d
}

// HollowTerm is a term with empty slices in the place of nil ones, which have memory behind them that nobody may look at.
func HollowTerm(t api.Term) api.Term {
	args := make([]api.Term, 0, len(t.Args)+1)
	for _, a := range t.Args {
		args = append(args, HollowTerm(a))
	}
	_ = append(args, api.Term{Op: 99})
	names := append(make([]string, 0, len(t.Names)+1), t.Names...)
	_ = append(names, "1")
	t.Args, t.Names, t.Data = args, names, Hollow(t.Data)
	return t
}

// Wild changes some field of some term in a term, which then may be not valid.
func (r *Random) Wild(t *api.Term) {
	for len(t.Args) > 0 && r.Below(3) > 0 {
		t = &t.Args[r.Below(len(t.Args))]
	}
	switch r.Below(6) {
	case 0:
		t.Op = r.Below(18) - 2
	case 1:
		t.Name = []string{"", "x", "car", "cons", "if", "X"}[r.Below(6)]
	case 2:
		t.Names = append(t.Names, []string{"", "x", "y", "if", "X"}[r.Below(5)])
	case 3:
		t.Args = append(t.Args, Var("x"))
	case 4:
		t.Args = t.Args[:len(t.Args)/2]
	default:
		t.Data = []api.Datum{{Kind: 9}, Num(1), Vec(), {Parts: []api.Datum{{}}}, Sym("X"), Str("s")}[r.Below(6)]
	}
}
