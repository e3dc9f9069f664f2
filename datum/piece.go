package datum

import (
	"cmp"
	"slices"
	"strings"

	"caracole/api"
	"caracole/guard"
)

// piece is a datum at work. There is a type for all kinds that use the same fields.
type piece interface {
	// formed says whether the fields that the kind does not use are zero, and there are as many parts as there have to be.
	formed() bool
	// order compares the piece with a datum of the same kind.
	order(b api.Datum) int
}

type (
	empty  struct{ api.Datum } // Nil
	number struct{ api.Datum } // Bool and Num
	text   struct{ api.Datum } // Sym and Str
	branch struct{ api.Datum } // Pair and Vec
)

func (p empty) formed() bool  { return p.Num == 0 && p.Text == "" && len(p.Parts) == 0 }
func (p number) formed() bool { return p.Text == "" && len(p.Parts) == 0 }
func (p text) formed() bool   { return p.Num == 0 && len(p.Parts) == 0 }

func (p branch) formed() bool {
	return p.Num == 0 && p.Text == "" && (p.Kind == api.Vec || len(p.Parts) == 2)
}

func (p empty) order(b api.Datum) int  { return 0 }
func (p number) order(b api.Datum) int { return cmp.Compare(p.Num, b.Num) }
func (p text) order(b api.Datum) int   { return strings.Compare(p.Text, b.Text) }
func (p branch) order(b api.Datum) int { return slices.CompareFunc(p.Parts, b.Parts, order) }

func atWork(d api.Datum) piece {
	switch d.Kind {
	case api.Nil:
		return empty{d}
	case api.Bool, api.Num:
		return number{d}
	case api.Sym, api.Str:
		return text{d}
	case api.Pair, api.Vec:
		return branch{d}
	}
	guard.Fail(api.ErrKind)
	return nil
}

// inspect fails with the first error that a datum has in itself, whatever its parts are.
func inspect(d api.Datum) {
	p := atWork(d)
	if !p.formed() {
		guard.Fail(api.ErrForm)
	}
	switch p := p.(type) {
	case number:
		p.inspectNum()
	case text:
		p.inspectText()
	}
}

func (p number) inspectNum() {
	least, most := -api.NumMost, api.NumMost
	if p.Kind == api.Bool {
		least, most = 0, 1
	}
	if p.Num < least || p.Num > most {
		guard.Fail(api.ErrValue)
	}
}

func (p text) inspectText() {
	switch {
	case p.Kind == api.Sym && !isSymbol(p.Text):
		guard.Fail(api.ErrName)
	case p.Kind == api.Str && len(p.Text) > api.StrLong:
		guard.Fail(api.ErrLarge)
	case p.Kind == api.Str && !isPlain(p.Text):
		guard.Fail(api.ErrValue)
	}
}

func order(a, b api.Datum) int {
	if c := cmp.Compare(a.Kind, b.Kind); c != 0 {
		return c
	}
	return atWork(a).order(b)
}

// alike says whether two data are the same but for what their parts are.
func alike(a, b api.Datum) bool {
	return a.Kind == b.Kind && a.Num == b.Num && a.Text == b.Text && len(a.Parts) == len(b.Parts)
}
